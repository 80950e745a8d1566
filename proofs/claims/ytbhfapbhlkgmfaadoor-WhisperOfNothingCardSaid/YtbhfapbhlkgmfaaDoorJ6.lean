/-
  WhRDec: CONTRACT: the document's own Decode.
  InvT: A LAW FOR A REGION THAT DRAWS ITS ORDER, WITH A TAIL: the operations of the tail wait for all that stand before them: they go in their own order, behind the others. No program is named here.
  SliceTo: A slice cut at a length that is a letter: as one equation for every world.
  WhRDecL: CONTRACT: the document's own Decode, every row of bytes.
  WpDec: CONTRACTS: the document's Decode of every row of bytes that reads: what it hands back lies in blocks of its own.
  WpInf: CONTRACTS: chapter 7, the document's Info.
  WpUp: CONTRACTS: chapter 7, the document's Update.
  WpFe: CONTRACTS: chapter 7, the document's Fetch.
  WqTm: THE PLAIN STATE of chapter 7: how many times a Fetch asks for, as the program counts them. No program is named here.
  WqIx: CONTRACTS: chapter 7, the program's search for an archive: the first that covers a time, the first that reaches far enough.
  WqCv: CONTRACTS: chapter 7, the program's search for an archive: slices.IndexFunc over archives, at both closures; covering, reaching.
  VpPure: THE PLAIN MATHEMATICS of files: what is undone against what is played again.
  VpHist: THE PLAIN MATHEMATICS of files: each act of the program's, and what it leaves to be undone.
-/
import Derived.Test.YtbhfapbhlkgmfaaDoorJ5
import Derived.Test.YtbhfapbhlkgmfaaDoorJ3
import Derived.Tactics
import Derived.Test.YtbhfapbhlkgmfaaDoorJ2
import Derived.Deep.RegionLaw
import Derived.Test.YtbhfapbhlkgmfaaDoorJ4
import Derived.Test.YtbhfapbhlkgmfaaDoorJ1

namespace Go.Proofs.YtbhfapbhlkgmfaaDoor
open Go.RowKit Go.Sort
open Wh (At)
open Me

namespace Wh
def cellsA (l : List (Int × Int)) : List Value := l.flatMap fun a => [.int .i64 a.1, .int .i64 a.2]
theorem cellsA_len (l : List (Int × Int)) : (cellsA l).length = l.length * 2 := by
  induction l with
  | nil => rfl
  | cons v l ih => simp only [cellsA, List.flatMap_cons, List.length_append, List.length_cons, List.length_nil] at *; omega
theorem cellsA_at (l : List (Int × Int)) : ∀ i, i < l.length → (cellsA l)[i * 2]? = some (.int .i64 (At l i).1) ∧ (cellsA l)[i * 2 + 1]? = some (.int .i64 (At l i).2) := by
  induction l with
  | nil => intro i h; cases h
  | cons v l ih =>
    intro i h
    cases i with
    | zero => exact ⟨rfl, rfl⟩
    | succ i =>
      obtain ⟨e1, e2⟩ := ih i (by simpa using h)
      have e : (i + 1) * 2 = i * 2 + 1 + 1 := by omega
      rw [e]
      exact ⟨e1, e2⟩
theorem archs_succ (L : List UInt8) (j : Nat) : archs L (j + 1) = archs L j ++ [(nm L (16 + 12 * j + 4), nm L (16 + 12 * j + 8))] := by
  unfold archs
  rw [List.range_succ, List.map_append]
  rfl
theorem dok_none {L : List UInt8} (h : nm L 12 < 1) : dok L = false := by
  refine dok_v (val_head (.inr (.inr (.inr (.inr (av_nil ?_))))))
  unfold cand
  rw [archs_len]
  omega
end Wh

def OwnAr (base : Nat) (w : World) (v : Value) (l : List (Int × Int)) : Prop := w.ownsRow base 30 2 v l.length (Wh.cellsA l)
theorem OwnAr.lt {base : Nat} {w : World} {v : Value} {l : List (Int × Int)} (h : OwnAr base w v l) : ∀ g, v.ownBlock = some g → base ≤ g ∧ g < w.heap.size := by
  intro g hg
  rcases h.2 with ⟨rfl, _⟩ | ⟨g', cap, cur, rfl, hb, hh, _⟩
  · cases hg
  · have : g' = g := by simpa [Value.ownBlock] using hg
    subst this
    exact ⟨hb, (Array.getElem?_eq_some_iff.1 hh).1⟩
theorem OwnAr.keep {base : Nat} {w w' : World} {v : Value} {l : List (Int × Int)} (h : OwnAr base w v l) (hk : ∀ g, base ≤ g → g < w.heap.size → w'.heap[g]? = w.heap[g]?) : OwnAr base w' v l :=
  owns_keep h fun g hg => hk g (h.lt g hg).1 (h.lt g hg).2
theorem OwnAr.row {base : Nat} {w : World} {v : Value} {l : List (Int × Int)} (h : OwnAr base w v l) : ∃ A c, v = .slice A l.length c ∧ Row w A l c := by
  obtain ⟨hlen, ⟨rfl, h0⟩ | ⟨g, cap, cur, rfl, hb, hg, hle, hm, hs, hx⟩⟩ := h
  · exact ⟨none, 0, by rw [h0], by omega, fun h => by omega⟩
  · refine ⟨some ⟨g, 0, none⟩, cap, rfl, hle, fun h0 => ⟨g, 0, rfl, (Array.getElem?_eq_some_iff.1 hg).1, fun i hi => ?_, fun i hi => ?_⟩⟩
    · rw [Nat.zero_add, ← (Wh.cellsA_at l i hi).1, ← hx, List.getElem?_take, if_pos (by omega)]
      simp [World.cell?, hg]
    · rw [Nat.zero_add, ← (Wh.cellsA_at l i hi).2, ← hx, List.getElem?_take, if_pos (by omega)]
      simp [World.cell?, hg]

/-- What holds of the blocks while the document reads: the result's block, the header's (w.heap.size + 1), the archives' own row. -/
structure RfMade (w wr : World) (L : List UInt8) (j : Nat) (v : Value) : Prop where
  sz : w.heap.size + 2 ≤ wr.heap.size
  bel : Below w.heap.size w wr
  rr : RowAt wr w.heap.size 24 #[.int .i64 0, .int .i64 0, .slice none 0 0]
  rh : RowAt wr (w.heap.size + 1) 24 #[.int .i64 (Wh.nm L 0), .int .i64 (Wh.nm L 8), v]
  own : OwnAr (w.heap.size + 2) wr v (Wh.archs L j)

theorem RfMade.step {w wr w4 : World} {L : List UInt8} {j n : Nat} {v v4 : Value} (hM : RfMade w wr L j v)
    (hg : ((wr.drewN n).alloc (.cells #[.int .i64 (Wh.nm L (16 + 12 * j + 4)), .int .i64 (Wh.nm L (16 + 12 * j + 8))] 30)).grownBy w4 v.ownBlock)
    (ho : w4.ownsRow (w.heap.size + 2) 30 2 v4 ((Wh.archs L j).length + 1) (Wh.cellsA (Wh.archs L j) ++ [.int .i64 (Wh.nm L (16 + 12 * j + 4)), .int .i64 (Wh.nm L (16 + 12 * j + 8))])) :
    w4.cell? ⟨w.heap.size + 1, 2, none⟩ = some v ∧ w4.frozen? ⟨w.heap.size + 1, 2, none⟩ = false ∧ RfMade w (w4.setCell ⟨w.heap.size + 1, 2, none⟩ v4) L (j + 1) v4 := by
  obtain ⟨sz, bel, rr, rh, own⟩ := hM
  have hlt := own.lt
  have hs4 : wr.heap.size + 1 ≤ w4.heap.size := by have := hg.size; simpa using this
  have key : ∀ i, i < w.heap.size + 2 → w4.heap[i]? = wr.heap[i]? := fun i hi => by
    have h1 := hg.block i (by simp; omega) (fun e => by have := (hlt i e.symm).1; omega)
    rw [h1]
    exact Below.heap_alloc (wr.drewN n) _ i (by show i < wr.heap.size; omega)
  have rr4 : RowAt w4 w.heap.size 24 #[.int .i64 0, .int .i64 0, .slice none 0 0] := (key _ (by omega)).trans rr
  have rh4 : RowAt w4 (w.heap.size + 1) 24 #[.int .i64 (Wh.nm L 0), .int .i64 (Wh.nm L 8), v] := (key _ (by omega)).trans rh
  refine ⟨rh4.cell 2, rh4.frozen 2, by simpa [World.setCell] using (by omega : w.heap.size + 2 ≤ w4.heap.size), ?_, rr4.far (by show w.heap.size ≠ w.heap.size + 1; omega) _, ?_, ?_⟩
  · have b1 : Below w.heap.size w w4 := ((bel_drewN bel n).alloc (by show _ ≤ wr.heap.size; omega) _).grown hg (by simp; omega) (fun g e => by have := (hlt g e).1; omega)
    exact b1.setCell (by show _ ≤ w.heap.size + 1; omega) _
  · have := rh4.set_ 2 v4
    simpa using this
  · rw [Wh.archs_succ]
    have ho' : OwnAr (w.heap.size + 2) w4 v4 (Wh.archs L j ++ [(Wh.nm L (16 + 12 * j + 4), Wh.nm L (16 + 12 * j + 8))]) := by
      unfold OwnAr
      rw [List.length_append]
      unfold Wh.cellsA at ho ⊢
      rw [List.flatMap_append]
      exact ho
    exact ho'.keep fun g hg1 _ => Below.heap_setCell _ ⟨w.heap.size + 1, 2, none⟩ v4 g (by show g ≠ w.heap.size + 1; omega)

end Go.Proofs.YtbhfapbhlkgmfaaDoor

namespace Go.Proofs.YtbhfapbhlkgmfaaDoor
open Go
namespace Inv

def deps (o : Oper) : List Nat := (o.after.toList.filter fun e => Region.binds .any e).map (·.on)
/-- What must have come up where all of S have. -/
def reach (ops : Array Oper) : Nat → List Nat → List Nat
  | 0, S => S
  | f + 1, S => reach ops f (S ++ (S.flatMap fun i => match ops[i]? with | some o => deps o | none => [])).eraseDups
/-- From m on each operation waits for all before it. -/
def tailB (ops : Array Oper) (m f : Nat) : Bool := ops.toList.zipIdx.all fun p => decide (p.2 < m) || (List.range p.2).all fun i => (reach ops f (deps p.1)).contains i

theorem dep_of {o : Oper} {j : Nat} (h : j ∈ deps o) : dep o j = true := by
  unfold deps at h
  obtain ⟨e, he, rfl⟩ := List.mem_map.1 h
  obtain ⟨h1, h2⟩ := List.mem_filter.1 he
  unfold dep
  exact List.any_eq_true.2 ⟨e, h1, by simp [h2]⟩
theorem reach_in {ops : Array Oper} {T : Nat → Prop} (hT : ∀ j o, T j → ops[j]? = some o → ∀ k, dep o k = true → T k) : ∀ f S, (∀ i ∈ S, T i) → ∀ i ∈ reach ops f S, T i
  | 0, _, h, i, hi => h i hi
  | f + 1, S, h, i, hi => by
    refine reach_in hT f _ (fun j hj => ?_) i hi
    rw [List.mem_eraseDups, List.mem_append, List.mem_flatMap] at hj
    rcases hj with hj | ⟨k, hk, hj⟩
    · exact h j hj
    · cases ho : ops[k]? with
      | none => rw [ho] at hj; cases hj
      | some o => rw [ho] at hj; exact hT k o (h k hk) ho j (dep_of hj)
theorem tail_spec {ops : Array Oper} {m f : Nat} (h : tailB ops m f = true) {t : Nat} {o : Oper} (ho : ops[t]? = some o) (hm : m ≤ t) {T : Nat → Prop} (hT : ∀ j o, T j → ops[j]? = some o → ∀ k, dep o k = true → T k) (hd : ∀ k, dep o k = true → T k) : ∀ i, i < t → T i := by
  intro i hi
  have := zip_all h ho
  simp only [Bool.or_eq_true, decide_eq_true_eq] at this
  rcases this with h1 | h1
  · omega
  · have h2 := List.all_eq_true.1 h1 i (List.mem_range.2 hi)
    exact reach_in hT f (deps o) (fun j hj => hd j (dep_of hj)) i (by simpa using h2)

section
variable {P : Program} {ops : Array Oper} {Q : Exit → Act → World → Prop}

theorem ready_at {listed : Array Bool} {i : Nat} (h : i ∈ Region.ready .any ops listed) : ∃ o, ops[i]? = some o ∧ i < ops.size ∧ listed.getD i true = false ∧ ∀ k, dep o k = true → listed.getD k true = true := by
  unfold Region.ready at h
  rw [List.mem_filter, Bool.and_eq_true] at h
  obtain ⟨hlt, hnl, haf⟩ := h
  rw [List.mem_range] at hlt
  have ho : ops[i]? = some ops[i] := Array.getElem?_eq_getElem hlt
  rw [ho] at haf
  simp only [Option.map_some, Option.getD_some, Array.all_eq_true_iff_forall_mem] at haf
  refine ⟨_, ho, hlt, by simpa using hnl, fun k hk => ?_⟩
  unfold dep at hk
  obtain ⟨e, he, hb⟩ := List.any_eq_true.1 hk
  rw [Bool.and_eq_true] at hb
  have hon : e.on = k := by simpa using hb.2
  have := haf e (Array.mem_toList_iff.1 he)
  rw [hb.1] at this
  have hx : listed.getD e.on false = true := by simpa using this
  rw [← hon]
  by_cases hs : e.on < listed.size
  · simpa [Array.getD, hs] using hx
  · simp [Array.getD, hs]
theorem set_iff {listed : Array Bool} {i : Nat} (j : Nat) : (listed.setIfInBounds i true).getD j true = true ↔ (j = i ∨ listed.getD j true = true) := by
  by_cases hji : j = i
  · subst hji
    simp only [true_or, iff_true]
    by_cases hs : j < listed.size <;> simp [Array.getD, hs]
  · have hij : i ≠ j := fun e => hji e.symm
    simp only [hji, false_or]
    by_cases hs : j < listed.size <;> simp [Array.getD, hs, hij]

theorem wp_region_tail {id : Nat} {a0 : Act} {w0 : World} (m f : Nat) (Ext : World → World → Prop) (R : Nat → Value → World → Prop) (hm : P.follows .mixedOrders = true) (hord : ordB ops = true) (hdst : dstB ops a0.tmps.size = true) (htail : tailB ops m f = true)
    (hrefl : ∀ w, Ext w w) (htr : ∀ a b c, Ext a b → Ext b c → Ext a c) (hR : ∀ i v w w', R i v w → Ext w w' → R i v w')
    (step : ∀ i o, i < m → ops[i]? = some o → Obl P ops Q Ext R a0 w0.drew i o)
    (fin : ∀ a w, Ext w0.drew w → a = (ops.toList.take m).foldl (fun b o => b.put o.dst (slot o a)) a0 → (∀ j p, j < m → ops[j]? = some p → R j (slot p a) w) → wpList P ops Q (ops.toList.drop m) a w) :
    (Code.region id ops true).wp P Q a0 w0 := by
  have hlist : ∀ k, k ≤ ops.size → wpOps P ops Q (List.range' k (ops.size - k)) = wpList P ops Q (ops.toList.drop k) := fun k _ => by
    have := wpOps_eq_wpList (P := P) (ops := ops) (Q := Q) (ops.toList.drop k) k (fun j => by rw [List.getElem?_drop]; simp)
    rw [List.length_drop, Array.length_toList] at this
    exact this
  have hless : ∀ j o, ops[j]? = some o → ∀ k, dep o k = true → k < j := fun j o ho k hk => by
    unfold dep at hk
    obtain ⟨e, he, hb⟩ := List.any_eq_true.1 hk
    rw [Bool.and_eq_true] at hb
    have hon : e.on = k := by simpa using hb.2
    exact hon ▸ ord_lt hord ho (Array.mem_toList_iff.1 he)
  -- what holds ahead of the tail
  let A : Array Bool → Act → World → Prop := fun listed a w => (∀ j, m ≤ j → j < ops.size → listed.getD j true = false) ∧ (∀ j o, listed.getD j true = true → ops[j]? = some o → ∀ k, dep o k = true → listed.getD k true = true) ∧ a.defers = a0.defers ∧ a.tmps.size = a0.tmps.size ∧
    (∀ s, (∀ j o, listed.getD j true = true → ops[j]? = some o → o.dst ≠ some s) → a.tmps.getD s undef = a0.tmps.getD s undef) ∧ Ext w0.drew w ∧ (∀ j o, listed.getD j true = true → ops[j]? = some o → R j (slot o a) w)
  let B : Array Bool → Act → World → Prop := fun listed a w => ∃ k, m < k ∧ k ≤ ops.size ∧ (∀ j, j < k → listed.getD j true = true) ∧ (∀ j, k ≤ j → j < ops.size → listed.getD j true = false) ∧ wpOps P ops Q (List.range' k (ops.size - k)) a w
  have hfinA : ∀ listed a w, A listed a w → (∀ j, j < m → j < ops.size → listed.getD j true = true) → wpOps P ops Q (List.range' (min m ops.size) (ops.size - min m ops.size)) a w := by
    rintro listed a w ⟨h0, h1, h2, h3, h4, h5, h6⟩ hall
    rw [hlist _ (Nat.min_le_right _ _)]
    have hd : ops.toList.drop (min m ops.size) = ops.toList.drop m := by
      rcases Nat.le_total m ops.size with h | h
      · rw [Nat.min_eq_left h]
      · rw [Nat.min_eq_right h, List.drop_eq_nil_of_le (by simp), List.drop_eq_nil_of_le (by simpa using h)]
    rw [hd]
    refine fin a w h5 ?_ fun j p hj hp => h6 j p (hall j hj (Array.getElem?_eq_some_iff.1 hp).1) hp
    have e : ((ops.toList.take m).toArray).toList = ops.toList.take m := by simp
    have := back (ops := (ops.toList.take m).toArray) (a0 := a0) (a := a) h2 h3 (fun s hs => h4 s fun j p hj hp => by
      by_cases hjm : j < m
      · refine clean_spec hs (j := j) ?_
        have hp' : ops.toList[j]? = some p := by simpa using hp
        simp [hjm, hp']
      · have := (Array.getElem?_eq_some_iff.1 hp).1
        rw [h0 j (by omega) this] at hj
        cases hj)
    rw [e] at this
    exact this
  refine wp_region_any hm ?_
  refine wpAny_inv (fun listed a w => A listed a w ∨ B listed a w) ?_ ?_ ops.size _ a0 _ ?_ ?_
  · intro listed a w hI i hi
    obtain ⟨o, ho, hlt, hnl, hdep⟩ := ready_at hi
    rcases hI with hA | ⟨k, hk1, hk2, hB1, hB2, hB3⟩
    · obtain ⟨h0, h1, h2, h3, h4, h5, h6⟩ := hA
      by_cases him : i < m
      · have hst := step i o him ho a w h5 (fun s hs => h4 s fun j p hj hp hd => by
          rcases fresh_spec hs hp hd with rfl | hdj
          · rw [hj] at hnl; cases hnl
          · have := h1 j p hj hp i hdj
            rw [this] at hnl; cases hnl) (fun j p hj hp => h6 j p (hdep j hj) hp)
        have key : ∀ v w', (o.dst = none → v = undef) → R i v w' → Ext w w' → A (listed.setIfInBounds i true) (a.put o.dst v) w' := by
          intro v w' hv hRi hE
          have hput : ∀ d, o.dst ≠ some d → (a.put o.dst v).tmps.getD d undef = a.tmps.getD d undef := fun d hd => by
            cases hod : o.dst with
            | none => rfl
            | some e =>
              have hed : e ≠ d := fun x => hd (by rw [hod, x])
              by_cases hs : d < a.tmps.size <;> simp [Act.put, Array.getD, hs, hed]
          refine ⟨fun j hj1 hj2 => ?_, fun j p hj hp k hk => ?_, ?_, ?_, fun s hs => ?_, htr _ _ _ h5 hE, fun j p hj hp => ?_⟩
          · have := h0 j hj1 hj2
            have hne : ¬ ((listed.setIfInBounds i true).getD j true = true) := fun h => by
              rcases (set_iff j).1 h with e | e
              · omega
              · rw [this] at e; cases e
            simpa using hne
          · rw [set_iff] at hj ⊢
            rcases hj with rfl | hj
            · rw [ho] at hp
              injection hp with hp
              subst hp
              exact .inr (hdep k hk)
            · exact .inr (h1 j p hj hp k hk)
          · rw [← h2]; cases o.dst <;> rfl
          · rw [← h3]; cases o.dst <;> simp [Act.put]
          · rw [hput s (hs i o ((set_iff i).2 (.inl rfl)) ho)]
            exact h4 s fun j p hj hp => hs j p ((set_iff j).2 (.inr hj)) hp
          · rw [set_iff] at hj
            by_cases hji : j = i
            · subst hji
              rw [ho] at hp
              injection hp with hp
              subst hp
              have : slot o (a.put o.dst v) = v := by
                cases hod : o.dst with
                | none => rw [hv hod]; unfold slot; rw [hod]
                | some d =>
                  have hd := dst_lt hdst ho hod
                  rw [← h3] at hd
                  simp [slot, hod, Act.put, Array.getD, hd]
              rw [this]
              exact hRi
            · have hj' := hj.resolve_left hji
              have : slot p (a.put o.dst v) = slot p a := by
                unfold slot
                cases hpd : p.dst with
                | none => rfl
                | some d => exact hput d (dst_ne hdst hp ho hji hpd)
              rw [this]
              exact hR _ _ _ _ (h6 j p hj' hp) hE
        unfold wpOp
        rw [ho]
        simp only
        split
        · rename_i hw
          rw [if_pos hw] at hst
          refine .inl (Oper.wp_mono ?_ hst)
          rintro a' w' ⟨v, rfl, hv, hRi, hE⟩
          exact .inl (key v w' hv hRi hE)
        · rename_i hw
          rw [if_neg hw] at hst
          exact .inl (key undef w (fun _ => rfl) hst (hrefl w))
      · -- the tail begins
        have hall := tail_spec htail ho (by omega) (T := fun j => listed.getD j true = true) (fun j p hj hp k hk => h1 j p hj hp k hk) hdep
        have him' : i = m := by
          apply Decidable.byContradiction
          intro hne
          have := hall m (by omega)
          rw [h0 m (Nat.le_refl _) (by omega)] at this
          cases this
        subst him'
        have hops := hfinA listed a w ⟨h0, h1, h2, h3, h4, h5, h6⟩ (fun j hj _ => hall j hj)
        rw [Nat.min_eq_left (by omega)] at hops
        have e : ops.size - i = (ops.size - (i + 1)) + 1 := by omega
        rw [e, List.range'_succ, wpOps_cons] at hops
        refine wpOp_mono (fun a' w' h' => ?_) hops
        refine .inr ⟨i + 1, by omega, by omega, fun j hj => ?_, fun j hj1 hj2 => ?_, h'⟩
        · rw [set_iff]
          by_cases hji : j = i
          · exact .inl hji
          · exact .inr (hall j (by omega))
        · have := h0 j (by omega) hj2
          have hne : ¬ ((listed.setIfInBounds i true).getD j true = true) := fun h => by
            rcases (set_iff j).1 h with e | e
            · omega
            · rw [this] at e; cases e
          simpa using hne
    · -- within the tail
      have hki : k ≤ i := by
        apply Decidable.byContradiction
        intro h
        have := hB1 i (by omega)
        rw [this] at hnl
        cases hnl
      have hall := tail_spec htail ho (by omega) (T := fun j => listed.getD j true = true) (fun j p hj hp q hq => by
        have hjl : j < k := by
          apply Decidable.byContradiction
          intro h
          have h2 := hB2 j (by omega) (Array.getElem?_eq_some_iff.1 hp).1
          have hj' : listed.getD j true = true := hj
          rw [h2] at hj'
          cases hj'
        exact hB1 q (by have := hless j p hp q hq; omega)) hdep
      have him' : i = k := by
        apply Decidable.byContradiction
        intro hne
        have := hall k (by omega)
        rw [hB2 k (Nat.le_refl _) (by omega)] at this
        cases this
      subst him'
      have e : ops.size - i = (ops.size - (i + 1)) + 1 := by omega
      rw [e, List.range'_succ, wpOps_cons] at hB3
      refine wpOp_mono (fun a' w' h' => ?_) hB3
      refine .inr ⟨i + 1, by omega, by omega, fun j hj => ?_, fun j hj1 hj2 => ?_, h'⟩
      · rw [set_iff]
        by_cases hji : j = i
        · exact .inl hji
        · exact .inr (hB1 j (by omega))
      · have := hB2 j (by omega) hj2
        have hne : ¬ ((listed.setIfInBounds i true).getD j true = true) := fun h => by
          rcases (set_iff j).1 h with e | e
          · omega
          · rw [this] at e; cases e
        simpa using hne
  · intro listed a w hI hr
    have hall := ready_nil hord hr
    rcases hI with hA | ⟨k, hk1, hk2, hB1, hB2, hB3⟩
    · have hms : ops.size ≤ m := by
        apply Decidable.byContradiction
        intro h
        have := hA.1 m (Nat.le_refl _) (by omega)
        rw [hall m (by omega)] at this
        cases this
      have hops := hfinA listed a w hA (fun j _ hj => hall j hj)
      rw [Nat.min_eq_right hms, Nat.sub_self] at hops
      exact hops
    · have : k = ops.size := by
        apply Decidable.byContradiction
        intro h
        have := hB2 k (Nat.le_refl _) (by omega)
        rw [hall k (by omega)] at this
        cases this
      rw [this, Nat.sub_self] at hB3
      exact hB3
  · refine .inl ?_
    have hno : ∀ j, j < ops.size → (Array.replicate ops.size false).getD j true = false := fun j hj => by simp [Array.getD, hj]
    have hno2 : ∀ j o, (Array.replicate ops.size false).getD j true = true → ops[j]? = some o → False := fun j o hj ho => by
      rw [hno j (Array.getElem?_eq_some_iff.1 ho).1] at hj
      cases hj
    exact ⟨fun j _ hj => hno j hj, fun j o hj ho => (hno2 j o hj ho).elim, rfl, rfl, fun _ _ => rfl, hrefl _, fun j o hj ho => (hno2 j o hj ho).elim⟩
  · simp
theorem region_tail {id : Nat} {a0 : Act} {w0 : World} (m f : Nat) (Ext : World → World → Prop) (R : Nat → Value → World → Prop) (hm : P.follows .mixedOrders = true) (hord : ordB ops = true) (hdst : dstB ops a0.tmps.size = true) (htail : tailB ops m f = true)
    (hrefl : ∀ w, Ext w w) (htr : ∀ a b c, Ext a b → Ext b c → Ext a c) (hR : ∀ i v w w', R i v w → Ext w w' → R i v w')
    (step : Obls P ops Q Ext R a0 w0.drew 0 (ops.toList.take m))
    (fin : ∀ a w, Ext w0.drew w → a = (ops.toList.take m).foldl (fun b o => b.put o.dst (slot o a)) a0 → (∀ j p, j < m → ops[j]? = some p → R j (slot p a) w) → wpList P ops Q (ops.toList.drop m) a w) :
    (Code.region id ops true).wp P Q a0 w0 :=
  wp_region_tail m f Ext R hm hord hdst htail hrefl htr hR (fun i o hi ho => by
    have hp' : ops.toList[i]? = some o := by simpa using ho
    have := step.get i o (by rw [List.getElem?_take, if_pos hi]; exact hp')
    rwa [Nat.zero_add] at this) fin
end
end Inv
end Go.Proofs.YtbhfapbhlkgmfaaDoor

namespace Go.Proofs.YtbhfapbhlkgmfaaDoor
open Go.RowKit Go.Sort

theorem slice_to (W : World) (b off n m cap : Nat) (hm : m ≤ n) (hn : n ≤ cap) :
    (Instr.slice 65 (.slice (some ⟨b, off, none⟩) n cap) none (some (.int .i64 (m : Int))) none).run Tryd.prog W = .ok (.slice (some ⟨b, off, none⟩) m cap) W := by
  have h1 : (m : Int) ≤ (n : Int) := by omega
  have h2 : ¬ (cap : Int) < (m : Int) := by omega
  have h3 : m ≤ cap := by omega
  have h4 : (0 : Int) ≤ (m : Int) := by omega
  simp [go_sem, *]
end Go.Proofs.YtbhfapbhlkgmfaaDoor

namespace Go.Proofs.YtbhfapbhlkgmfaaDoor
open Go.RowKit Go.Sort
open Wh (At)
open Me

theorem arinfo2 : (Tryd.prog.info? 30).map (fun i => (i.zero, i.size, i.bytes)) = some (some (.agg #[.int .i64 0, .int .i64 0]), 2, 16) := by kernel_rfl

theorem step_go {P : Program} {ops : Array Oper} {o : Oper} {a : Act} {K : Act → World → Prop} {Q : Exit → Act → World → Prop} {E : Prop} {w : World} (hgd : o.guard = none) (f : FuncId) (xs : Array Value) (hrun : (execOp a.eval o).run P w = .ok (.enter f xs) w) (v : Value) (R : World → Prop) (hc : Calls P f xs w fun e w' => e = .returned v ∧ R w') (h : ∀ w', R w' → K (a.put o.dst v) w') :
    if Region.wanted o (yielded ops a.tmps) = true then Oper.wp P o a w K Q else E := by
  rw [if_pos (by simp [Region.wanted, hgd])]
  unfold Oper.wp
  rw [hrun, Oper.upon_enter]
  exact hc.mono fun e w' ⟨he, hr⟩ => by subst he; exact h w' hr

theorem by_reads {w : World} {b off cap : Nat} {L : List UInt8} (h : By w b off L) (hc : L.length ≤ cap) : Reads w (.slice (some ⟨b, off, none⟩) L.length cap) L :=
  ⟨_, _, rfl, hc, fun _ => ⟨_, rfl, h.lt, trivial, fun j u hu => by
    rw [Addr.add_lit]
    have hj : j < L.length := by
      rcases Nat.lt_or_ge j (by8 L).length with h1 | h1
      · rwa [by8_len] at h1
      · rw [List.getElem?_eq_none h1] at hu; cases hu
    rw [by8_get L j hj] at hu
    have := h.at_ j hj
    rw [this, ← hu]
    unfold Wh.byt
    rw [List.getD_eq_getElem?_getD, List.getElem?_eq_getElem hj]
    rfl⟩⟩
theorem DecodedF.yes' {w w' : World} {L : List UInt8} {e : Ending} {A : Option Addr} {c : Nat} (h : Wh.dok L = true) (he : e = .returned (.tuple #[.agg #[.int .i64 (Wh.nm L 0), .int .i64 (Wh.nm L 8), .slice A (Wh.cand L).length c], .int .i64 0])) (hr : Row w' A (Wh.cand L) c) (hb : Below w.heap.size w w') (hf : ∀ a, A = some a → w.heap.size ≤ a.block) : DecodedF w L e w' := by
  obtain ⟨e1, e2, e3, e4⟩ := Wh.dok_t h
  refine ⟨A, c, ?_, ?_, hb, hf⟩
  · rw [he, e1, e2, e3, e4]
  · rw [e3]; exact hr
theorem own_fresh {base b0 : Nat} {W : World} {A : Option Addr} {n c : Nat} {l : List (Int × Int)} (h : OwnAr base W (.slice A n c) l) (hb : b0 ≤ base) : ∀ a, A = some a → b0 ≤ a.block := fun a e => by
  subst e
  rcases h.2 with ⟨e, _⟩ | ⟨g, cap, cur, e, hg, _⟩
  · cases e
  · injection e with e1 _ _
    injection e1 with e1
    rw [e1]
    exact Nat.le_trans hb hg
theorem rf_of {w X wx : World} {L : List UInt8} (hX : X.heap.size = w.heap.size + 1) (hB : Below w.heap.size w X) (hR : RowAt X w.heap.size 24 #[.int .i64 0, .int .i64 0, .slice none 0 0])
    (hb : Below X.heap.size X wx) (h1 : RowAt wx X.heap.size 24 #[.int .i64 (Wh.nm L 0), .int .i64 (Wh.nm L 8), .slice none 0 0]) : RfMade w wx L 0 (.slice none 0 0) := by
  rw [hX] at h1
  have := h1.lt
  exact ⟨by omega, hB.trans (hb.mono (by omega)), hR.below hb (by omega), h1, rfl, .inl ⟨rfl, rfl⟩⟩

theorem RfMade.below {w wr W : World} {L : List UInt8} {j : Nat} {v : Value} (h : RfMade w wr L j v) (hb : Below wr.heap.size wr W) : RfMade w W L j v := by
  obtain ⟨sz, bel, rr, rh, own⟩ := h
  exact ⟨Nat.le_trans sz hb.size, bel.trans (hb.mono bel.size), rr.below hb rr.lt, rh.below hb rh.lt, own.keep fun g _ hg => hb.block g hg⟩
theorem RfMade.step2 {w wr w4 : World} {L : List UInt8} {j : Nat} {v v4 : Value} (hM : RfMade w wr L j v) (hg : wr.grownBy w4 v.ownBlock)
    (ho : w4.ownsRow (w.heap.size + 2) 30 2 v4 ((Wh.archs L j).length + 1) (Wh.cellsA (Wh.archs L j) ++ [.int .i64 (Wh.nm L (16 + 12 * j + 4)), .int .i64 (Wh.nm L (16 + 12 * j + 8))])) :
    w4.cell? ⟨w.heap.size + 1, 2, none⟩ = some v ∧ w4.frozen? ⟨w.heap.size + 1, 2, none⟩ = false ∧ RfMade w (w4.setCell ⟨w.heap.size + 1, 2, none⟩ v4) L (j + 1) v4 := by
  obtain ⟨sz, bel, rr, rh, own⟩ := hM
  have hlt := own.lt
  have hs4 : wr.heap.size ≤ w4.heap.size := hg.size
  have key : ∀ i, i < w.heap.size + 2 → w4.heap[i]? = wr.heap[i]? := fun i hi => hg.block i (by omega) (fun e => by have := (hlt i e.symm).1; omega)
  have rr4 : RowAt w4 w.heap.size 24 #[.int .i64 0, .int .i64 0, .slice none 0 0] := (key _ (by omega)).trans rr
  have rh4 : RowAt w4 (w.heap.size + 1) 24 #[.int .i64 (Wh.nm L 0), .int .i64 (Wh.nm L 8), v] := (key _ (by omega)).trans rh
  refine ⟨rh4.cell 2, rh4.frozen 2, by simpa [World.setCell] using (by omega : w.heap.size + 2 ≤ w4.heap.size), ?_, rr4.far (by show w.heap.size ≠ w.heap.size + 1; omega) _, ?_, ?_⟩
  · have b1 : Below w.heap.size w w4 := bel.grown hg bel.size (fun g e => by have := (hlt g e).1; omega)
    exact b1.setCell (by show _ ≤ w.heap.size + 1; omega) _
  · have := rh4.set_ 2 v4
    simpa using this
  · rw [Wh.archs_succ]
    have ho' : OwnAr (w.heap.size + 2) w4 v4 (Wh.archs L j ++ [(Wh.nm L (16 + 12 * j + 4), Wh.nm L (16 + 12 * j + 8))]) := by
      unfold OwnAr
      rw [List.length_append]
      unfold Wh.cellsA at ho ⊢
      rw [List.flatMap_append]
      exact ho
    exact ho'.keep fun g hg1 _ => Below.heap_setCell _ ⟨w.heap.size + 1, 2, none⟩ v4 g (by show g ≠ w.heap.size + 1; omega)
theorem rd_row {w : World} {g : Nat} {t : TypeId} {cs : List Value} (h : RowAt w g t cs.toArray) : Rd w (fun _ => True) (some ⟨g, 0, none⟩) cs := fun _ => by
  refine ⟨_, rfl, h.lt, trivial, fun j u hu => ?_⟩
  rw [Addr.add_lit, Nat.zero_add, h.cell]
  simpa using hu

theorem row_back {w W : World} {A : Option Addr} {l : List (Int × Int)} {c : Nat} (h : OwnAr (w.heap.size + 2) W (.slice A l.length c) l) (x y z : Value) : Row (((W.setCell ⟨w.heap.size, 0, none⟩ x).setCell ⟨w.heap.size, 1, none⟩ y).setCell ⟨w.heap.size, 2, none⟩ z) A l c := by
  have h2 : OwnAr (w.heap.size + 2) (((W.setCell ⟨w.heap.size, 0, none⟩ x).setCell ⟨w.heap.size, 1, none⟩ y).setCell ⟨w.heap.size, 2, none⟩ z) (.slice A l.length c) l := h.keep fun g hg _ =>
    (Below.heap_setCell _ ⟨w.heap.size, 2, none⟩ z g (by show g ≠ w.heap.size; omega)).trans ((Below.heap_setCell _ ⟨w.heap.size, 1, none⟩ y g (by show g ≠ w.heap.size; omega)).trans (Below.heap_setCell _ ⟨w.heap.size, 0, none⟩ x g (by show g ≠ w.heap.size; omega)))
  obtain ⟨A', c', e, hr⟩ := OwnAr.row h2
  injection e with e1 e2 e3
  subst e1 e3
  exact hr
end Go.Proofs.YtbhfapbhlkgmfaaDoor

namespace Go.Proofs.YtbhfapbhlkgmfaaDoor
open Go.RowKit
open Me

end Go.Proofs.YtbhfapbhlkgmfaaDoor

namespace Go.Proofs.YtbhfapbhlkgmfaaDoor
open Go.RowKit Go.Sort
open Fx (Vl)
open Me
open Wp

/-- A header handed back with an error, in blocks of the call's own. -/
def Wp.Informed (w : World) (R : Hd × Int) (e : Ending) (w' : World) : Prop :=
  ∃ A cap, e = .returned (.tuple #[.agg #[.int .i64 R.1.ag, .int .i64 R.1.xf, .slice A R.1.l.length cap], .int .i64 R.2]) ∧ Row w' A R.1.l cap ∧ (∀ a, A = some a → w.heap.size ≤ a.block) ∧ Below w.heap.size w w'
theorem Wp.Informed.zero {w w' : World} {R : Hd × Int} {k : Int} (hR : R = (Hd.zero, k)) (hb : Below w.heap.size w w') : Informed w R (.returned (.tuple #[.agg #[.int .i64 0, .int .i64 0, .slice none 0 0], .int .i64 k])) w' := by
  subst hR
  exact ⟨none, 0, rfl, ⟨Nat.le_refl _, fun h => (by cases h)⟩, fun a e => (by cases e), hb⟩

theorem below_set3 {B g : Nat} {w W : World} {a b c : Value} (h : Below B w W) (hg : B ≤ g) : Below B w (((W.setCell ⟨g, 0, none⟩ a).setCell ⟨g, 1, none⟩ b).setCell ⟨g, 2, none⟩ c) :=
  Below.setCell (Below.setCell (Below.setCell h hg _) hg _) hg _
theorem row_set3 {g : Nat} {W : World} {a b c : Value} {A : Option Addr} {l : List (Int × Int)} {cap : Nat} (h : Row W A l cap) (hg : ∀ x, A = some x → g < x.block) : Row (((W.setCell ⟨g, 0, none⟩ a).setCell ⟨g, 1, none⟩ b).setCell ⟨g, 2, none⟩ c) A l cap := by
  refine ⟨h.1, fun h0 => ?_⟩
  obtain ⟨bb, off, e, ha⟩ := h.2 h0
  have hlt := hg _ e
  have hne : bb ≠ g := fun e => by subst e; exact Nat.lt_irrefl _ hlt
  have hk : (((W.setCell ⟨g, 0, none⟩ a).setCell ⟨g, 1, none⟩ b).setCell ⟨g, 2, none⟩ c).heap[bb]? = W.heap[bb]? := (Below.heap_setCell _ _ _ _ hne).trans ((Below.heap_setCell _ _ _ _ hne).trans (Below.heap_setCell _ _ _ _ hne))
  exact ⟨bb, off, e, by simpa [World.setCell] using ha.lt, fun i hi => (World.cell?_of_block hk).trans (ha.st i hi), fun i hi => (World.cell?_of_block hk).trans (ha.ct i hi)⟩

end Go.Proofs.YtbhfapbhlkgmfaaDoor

namespace Go.Proofs.YtbhfapbhlkgmfaaDoor
open Go.RowKit Go.Sort
open Fx (Vl)
open Me
open Wp

namespace Wp
theorem info_val {fs : List Vf.Fl} {n : List UInt8} (h : (info fs n).2 = 0) : (info fs n).1.val = true := by
  unfold info at h ⊢
  split at h
  · rename_i hh; exact absurd h hh
  · rename_i hh
    rw [if_neg hh]
    dsimp only at h ⊢
    split at h
    · cases h
    · rename_i h2
      rw [if_neg h2]
      cases hd : Wh.dok (Vf.read fs n 0 (Vf.size fs n).1).1
      · exfalso
        apply h2
        left
        rw [(Wh.dok_f hd).2.2.2]; decide
      · obtain ⟨e1, e2, e3, _⟩ := Wh.dok_t hd
        unfold Hd.val hdOf
        dsimp only
        rw [e1, e2, e3]
        unfold Wh.dok at hd
        simp only [Bool.and_eq_true] at hd
        exact hd.1.2
theorem layAll_step {n : List UInt8} {h : Hd} {now : Int} {l : List (Int × Int)} {i : Nat} (hi : i < l.length) {S : Vf.Sv} {k : Int} :
    layAll n h now (l.drop i) S k = layAll n h now (l.drop (i + 1)) (lays S n h now l[i]).1 (if (lays S n h now l[i]).2 = true then k + 1 else k) := by
  rw [List.drop_eq_getElem_cons hi]
  conv => lhs; unfold layAll
theorem update_err {S : Vf.Sv} {n : List UInt8} {now : Int} {l : List (Int × Int)} (h : (info S.now n).2 ≠ 0) : update S n now l = (S, 0, (info S.now n).2) := by unfold update; dsimp only; rw [if_pos h]
theorem update_now {S : Vf.Sv} {n : List UInt8} {now : Int} {l : List (Int × Int)} (h : (info S.now n).2 = 0) (ht : now < 1 ∨ 4294967295 < now) : update S n now l = (S, 0, 1) := by
  unfold update; dsimp only; rw [if_neg (by rw [h]; simp), if_pos (by unfold time; simp; omega)]
theorem update_yes {S : Vf.Sv} {n : List UInt8} {now : Int} {l : List (Int × Int)} (h : (info S.now n).2 = 0) (h1 : 1 ≤ now) (h2 : now ≤ 4294967295) : update S n now l = ({ (layAll n (info S.now n).1 now l S 0).1 with was := (layAll n (info S.now n).1 now l S 0).1.now, l := [] }, (layAll n (info S.now n).1 now l S 0).2, 0) := by
  unfold update; dsimp only; rw [if_neg (by rw [h]; simp), if_neg (by unfold time; simp; omega)]
end Wp

end Go.Proofs.YtbhfapbhlkgmfaaDoor

namespace Go.Proofs.YtbhfapbhlkgmfaaDoor
open Go.RowKit Go.Sort
open Fx (Vl)
open Me
open Wp

namespace Wp
theorem fetch_err {fs : List Vf.Fl} {n : List UInt8} {now a b : Int} (h : (info fs n).2 ≠ 0) : fetch fs n now a b = (none, (info fs n).2) := by unfold fetch; dsimp only; rw [if_pos h]
theorem fetch_now {fs : List Vf.Fl} {n : List UInt8} {now a b : Int} (h : (info fs n).2 = 0) (ht : now < 1 ∨ 4294967295 < now) : fetch fs n now a b = (none, 1) := by
  unfold fetch; dsimp only; rw [if_neg (by rw [h]; simp), if_pos (by unfold time; simp; omega)]
theorem fetch_time {fs : List Vf.Fl} {n : List UInt8} {now a b : Int} (h : (info fs n).2 = 0) (h1 : 1 ≤ now) (h2 : now ≤ 4294967295) (ht : b < a ∨ now < a ∨ b < 0 ∨ b < now - (info fs n).1.span) : fetch fs n now a b = (none, 7) := by
  unfold fetch; dsimp only; rw [if_neg (by rw [h]; simp), if_neg (by unfold time; simp; omega), if_pos ht]
/-- Where the times end. -/
def fin_ (u s a : Int) : Int := if Sl.al u s + s ≤ a then a + s else Sl.al u s + s
def seq (fs : List Vf.Fl) (n : List UInt8) (h : Hd) (i : Nat) (a : Int) (k : Nat) : List Vl := (List.range k).map fun (j : Nat) => value fs n h i (a + (j : Int) * h.step i)
theorem seq_succ (fs : List Vf.Fl) (n : List UInt8) (h : Hd) (i : Nat) (a : Int) (k : Nat) : seq fs n h i a (k + 1) = seq fs n h i a k ++ [value fs n h i (a + (k : Int) * h.step i)] := by unfold seq; rw [List.range_succ, List.map_append]; rfl
theorem seq_len (fs : List Vf.Fl) (n : List UInt8) (h : Hd) (i : Nat) (a : Int) (k : Nat) : (seq fs n h i a k).length = k := by unfold seq; simp
theorem fetch_yes {fs : List Vf.Fl} {n : List UInt8} {now a b : Int} {i : Nat} (h : (info fs n).2 = 0) (h1 : 1 ≤ now) (h2 : now ≤ 4294967295) (ht : ¬ (b < a ∨ now < a ∨ b < 0 ∨ b < now - (info fs n).1.span)) {f u : Int} (hf : clip (info fs n).1 now a = f) (hu : min b now = u)
    (hi : first (info fs n).1 (now - f - 1) (info fs n).1.l.length 0 = some i) {p e : Int} (hp : Sl.al f ((info fs n).1.step i) + (info fs n).1.step i = p) (he : fin_ u ((info fs n).1.step i) p = e) {K : Nat} (hK : ((e - p) / (info fs n).1.step i).toNat = K) :
    fetch fs n now a b = (some ⟨p, (info fs n).1.step i, seq fs n (info fs n).1 i p K⟩, 0) := by
  unfold fetch; dsimp only
  rw [if_neg (by rw [h]; simp), if_neg (by unfold time; simp; omega), if_neg ht, hf, hu, hi]
  dsimp only
  rw [hp]
  unfold fin_ at he
  rw [he, hK]
  rfl
/-- The times, counted. -/
theorem times_of {f u s : Int} (hs : 1 ≤ s) (hs2 : s ≤ 16777216) (hf : 0 ≤ f) (hfu : f ≤ u) (hu : u ≤ 4294967295) :
    ∃ (K : Nat) (p q e : Int), Sl.al f s = q ∧ q + s = p ∧ fin_ u s p = e ∧ e = p + (K : Int) * s ∧ ((e - p) / s).toNat = K ∧ 1 ≤ K ∧ K ≤ 4294967296 ∧ 0 ≤ q ∧ q ≤ 4294967295 ∧ e ≤ 4328521728 ∧ 0 ≤ Sl.al u s ∧ Sl.al u s ≤ 4294967295 := by
  have e1 := Sl.al_mul hs hf
  have e2 := Sl.al_mul hs (by omega : 0 ≤ u)
  have m1 : 0 ≤ f / s := Int.ediv_nonneg hf (by omega)
  have m2 : f / s ≤ u / s := Int.ediv_le_ediv (by omega) hfu
  have m3 : u / s ≤ u := Int.ediv_le_self _ (by omega)
  have b1 : Sl.al f s ≤ f := by rw [Sl.al_eq hs hf]; have := Int.emod_nonneg f (by omega : s ≠ 0); omega
  have b2 : Sl.al u s ≤ u := by rw [Sl.al_eq hs (by omega)]; have := Int.emod_nonneg u (by omega : s ≠ 0); omega
  have c1 : 0 ≤ Sl.al f s := by rw [e1]; exact Int.mul_nonneg (by omega) m1
  have c2 : 0 ≤ Sl.al u s := by rw [e2]; exact Int.mul_nonneg (by omega) (by omega)
  by_cases hc : Sl.al u s + s ≤ Sl.al f s + s
  · refine ⟨1, _, _, _, rfl, rfl, rfl, ?_, ?_, by omega, by omega, c1, by omega, ?_, c2, by omega⟩
    · unfold fin_; rw [if_pos hc]; simp
    · unfold fin_; rw [if_pos hc, show Sl.al f s + s + s - (Sl.al f s + s) = s by omega, Int.ediv_self (by omega)]; rfl
    · unfold fin_; rw [if_pos hc]; omega
  · have hlt : f / s < u / s := by
      apply Int.lt_of_not_ge
      intro hge
      have : u / s = f / s := by omega
      rw [e1, e2, this] at hc
      omega
    have hd : Sl.al u s + s - (Sl.al f s + s) = s * (u / s - f / s) := by rw [e1, e2, Int.mul_sub]; omega
    refine ⟨(u / s - f / s).toNat, _, _, _, rfl, rfl, rfl, ?_, ?_, by omega, by omega, c1, by omega, ?_, c2, by omega⟩
    · unfold fin_; rw [if_neg hc, Int.toNat_of_nonneg (by omega), Int.mul_comm]; omega
    · unfold fin_; rw [if_neg hc, hd, Int.mul_ediv_cancel_left _ (by omega)]
    · unfold fin_; rw [if_neg hc]; omega
theorem Hd.span_eq {h : Hd} (hv : h.val = true) : h.span = h.step (h.l.length - 1) * h.cnt (h.l.length - 1) := by
  have hv' : Wh.val h.ag h.xf h.l = true := hv
  unfold Hd.span Wh.spn
  rw [if_pos hv']
  rfl
theorem Hd.span_bd {h : Hd} (hv : h.val = true) : 1 ≤ h.span ∧ h.span ≤ 4294967295 := by
  have hl := Hd.len hv
  obtain ⟨⟨n1, _⟩, n3, _⟩ := Hd.nums hv (h.l.length - 1) (by omega)
  have e := Hd.span_eq hv
  constructor
  · rw [e]
    have := Int.mul_le_mul n1 n3 (by omega) (by omega)
    omega
  · obtain ⟨_, _, _, ha⟩ := Wh.val_t hv
    obtain ⟨a1, a2, a3, a4, a5⟩ := Wh.av_t ha
    rw [e]
    exact a5
theorem clip_bd {h : Hd} {now a b : Int} (hv : h.val = true) (h1 : 1 ≤ now) (ht : ¬ (b < a ∨ now < a ∨ b < 0 ∨ b < now - h.span)) : 0 ≤ clip h now a ∧ clip h now a ≤ min b now ∧ now - h.span ≤ clip h now a := by
  have := Hd.span_bd hv
  unfold clip
  omega
end Wp

/-- What Fetch hands back. -/
def Wp.Fetched (w : World) (n : List UInt8) (R : Option Se × Int) (e : Ending) (w' : World) : Prop :=
  ∃ v, e = .returned (.tuple #[v, .int .i64 R.2]) ∧ (R.1 = none → v = .agg #[.string ⟨#[]⟩, .int .i64 0, .int .i64 0, .slice none 0 0, .int .i64 0]) ∧ (∀ s, R.1 = some s → ∃ x, v = .agg #[.string ⟨n.toArray⟩, .int .i64 s.start, .int .i64 s.step, x, .int .i64 0] ∧ OwnV w.heap.size w' x s.vals) ∧ Below w.heap.size w w'
theorem Wp.Fetched.no {w w' : World} {n : List UInt8} {R : Option Se × Int} {k : Int} (hR : R = (none, k)) (hb : Below w.heap.size w w') : Fetched w n R (.returned (.tuple #[.agg #[.string ⟨#[]⟩, .int .i64 0, .int .i64 0, .slice none 0 0, .int .i64 0], .int .i64 k])) w' := by
  subst hR
  exact ⟨_, rfl, fun _ => rfl, fun s e => (by cases e), hb⟩
theorem below_set5 {B g : Nat} {w W : World} {a b c d e : Value} (h : Below B w W) (hg : B ≤ g) : Below B w (((((W.setCell ⟨g, 0, none⟩ a).setCell ⟨g, 1, none⟩ b).setCell ⟨g, 2, none⟩ c).setCell ⟨g, 3, none⟩ d).setCell ⟨g, 4, none⟩ e) :=
  Below.setCell (Below.setCell (Below.setCell (Below.setCell (Below.setCell h hg _) hg _) hg _) hg _) hg _
/-- The result's cell: untouched in every world that is reached above it. -/
theorem serCell (w : World) : Hid (∀ W, Below (w.heap.size + 1) (w.alloc (.cells #[.string ⟨#[]⟩, .int .i64 0, .int .i64 0, .slice none 0 0, .int .i64 0] 43)) W →
    (W.cell? ⟨w.heap.size, 0, none⟩ = some (.string ⟨#[]⟩) ∧ W.cell? ⟨w.heap.size, 1, none⟩ = some (.int .i64 0) ∧ W.cell? ⟨w.heap.size, 2, none⟩ = some (.int .i64 0) ∧ W.cell? ⟨w.heap.size, 3, none⟩ = some (.slice none 0 0) ∧ W.cell? ⟨w.heap.size, 4, none⟩ = some (.int .i64 0)) ∧
    (W.frozen? ⟨w.heap.size, 0, none⟩ = false ∧ W.frozen? ⟨w.heap.size, 1, none⟩ = false ∧ W.frozen? ⟨w.heap.size, 2, none⟩ = false ∧ W.frozen? ⟨w.heap.size, 3, none⟩ = false ∧ W.frozen? ⟨w.heap.size, 4, none⟩ = false) ∧ w.heap.size < W.heap.size) := Lib.hid fun W hb =>
  ⟨⟨(hb.cell (p := ⟨w.heap.size, 0, none⟩) (Nat.lt_succ_self _)).trans (by simp [go_sem]), (hb.cell (p := ⟨w.heap.size, 1, none⟩) (Nat.lt_succ_self _)).trans (by simp [go_sem]), (hb.cell (p := ⟨w.heap.size, 2, none⟩) (Nat.lt_succ_self _)).trans (by simp [go_sem]), (hb.cell (p := ⟨w.heap.size, 3, none⟩) (Nat.lt_succ_self _)).trans (by simp [go_sem]), (hb.cell (p := ⟨w.heap.size, 4, none⟩) (Nat.lt_succ_self _)).trans (by simp [go_sem])⟩,
    ⟨(hb.frozen (p := ⟨w.heap.size, 0, none⟩) (Nat.lt_succ_self _)).trans (by simp [go_sem]), (hb.frozen (p := ⟨w.heap.size, 1, none⟩) (Nat.lt_succ_self _)).trans (by simp [go_sem]), (hb.frozen (p := ⟨w.heap.size, 2, none⟩) (Nat.lt_succ_self _)).trans (by simp [go_sem]), (hb.frozen (p := ⟨w.heap.size, 3, none⟩) (Nat.lt_succ_self _)).trans (by simp [go_sem]), (hb.frozen (p := ⟨w.heap.size, 4, none⟩) (Nat.lt_succ_self _)).trans (by simp [go_sem])⟩, Nat.lt_of_lt_of_le (by simp) hb.size⟩

end Go.Proofs.YtbhfapbhlkgmfaaDoor

namespace Go.Proofs.YtbhfapbhlkgmfaaDoor
open Go.RowKit
open Fx (Vl)
namespace Wp
theorem times_max {f u s now c : Int} (hs : 1 ≤ s) (hf : 0 ≤ f) (hfu : f ≤ u) (hu : u ≤ now) (hc : 1 ≤ c) (hsp : now - f ≤ s * c) :
    max ((Sl.al u s + s - (Sl.al f s + s)) / s) 1 = ((((fin_ u s (Sl.al f s + s) - (Sl.al f s + s)) / s).toNat : Nat) : Int) ∧ ((((fin_ u s (Sl.al f s + s) - (Sl.al f s + s)) / s).toNat : Nat) : Int) ≤ c := by
  have e1 := Sl.al_mul hs hf
  have e2 := Sl.al_mul hs (by omega : 0 ≤ u)
  have m2 : f / s ≤ u / s := Int.ediv_le_ediv (by omega) hfu
  have hd : Sl.al u s + s - (Sl.al f s + s) = s * (u / s - f / s) := by rw [e1, e2, Int.mul_sub]; omega
  have hq : (Sl.al u s + s - (Sl.al f s + s)) / s = u / s - f / s := by rw [hd, Int.mul_ediv_cancel_left _ (by omega)]
  have hm : u / s - f / s ≤ c := by
    have h1 : u / s ≤ (f + s * c) / s := Int.ediv_le_ediv (by omega) (by omega)
    rw [Int.add_mul_ediv_left _ _ (by omega : s ≠ 0)] at h1
    omega
  unfold fin_
  by_cases hcc : Sl.al u s + s ≤ Sl.al f s + s
  · rw [if_pos hcc, show Sl.al f s + s + s - (Sl.al f s + s) = s by omega, Int.ediv_self (by omega), hq]
    have : u / s ≤ f / s := by
      apply Int.not_lt.1
      intro hlt
      have := Int.mul_lt_mul_of_pos_left hlt (by omega : 0 < s)
      omega
    constructor
    · show max _ 1 = (1 : Int); omega
    · show (1 : Int) ≤ c; omega
  · have hlt : f / s < u / s := by
      apply Int.lt_of_not_ge
      intro hge
      have : u / s = f / s := by omega
      rw [e1, e2, this] at hcc
      omega
    rw [if_neg hcc, hq, Int.toNat_of_nonneg (by omega)]
    omega
/-- What the program's search for an archive finds. -/
def find (h : Hd) (d : Int) : Int := match first h d h.l.length 0 with | none => -1 | some i => (i : Int)
theorem info_file {l : List Vf.Fl} {n : List UInt8} (h : (info l n).2 = 0) : ∃ B, Fits l n (info l n).1 B := by
  have hv := info_val h
  unfold info at h hv ⊢
  by_cases e : (Vf.size l n).2 ≠ 0
  · rw [if_pos e] at h; exact absurd h e
  rw [if_neg e] at h hv ⊢
  dsimp only at h hv ⊢
  obtain ⟨B, hB, hz⟩ := Vf.Has.of_size (by omega : (Vf.size l n).2 = 0)
  by_cases e2 : Wh.derr (Vf.read l n 0 (Vf.size l n).1).1 ≠ 0 ∨ (hdOf (Vf.read l n 0 (Vf.size l n).1).1).size ≠ (Vf.size l n).1
  · rw [if_pos e2] at h; cases h
  rw [if_neg e2] at hv ⊢
  refine ⟨B, hB, hv, ?_⟩
  rw [← hz]
  exact (Decidable.not_not.1 (fun e => e2 (.inr e))).symm
/-- Of a long file no more is read than a head has. -/
theorem info_short {l : List Vf.Fl} {n : List UInt8} (h : (Vf.size l n).2 = 0) : ∃ L, Vf.read l n 0 (min (Vf.size l n).1 112) = (L, 0) ∧ 0 ≤ (Vf.size l n).1 ∧ info l n = if Wh.derr L ≠ 0 ∨ (hdOf L).size ≠ (Vf.size l n).1 then (Hd.zero, 2) else (hdOf L, 0) := by
  obtain ⟨B, hB, hz⟩ := Vf.Has.of_size h
  refine ⟨B.take (min (Vf.size l n).1 112).toNat, ?_, by omega, ?_⟩
  · rw [hB.read_eq (by omega) (by omega) (by omega)]; rfl
  · have e : (Vf.read l n 0 (Vf.size l n).1).1 = B := by
      rw [hB.read_eq (by omega) (by omega) (by omega), hz]
      show (B.drop 0).take _ = B
      rw [List.drop_zero, Int.toNat_natCast, List.take_length]
    unfold info
    rw [if_neg (by omega)]
    dsimp only
    rw [e]
    by_cases hl : B.length ≤ 112
    · rw [show (min (Vf.size l n).1 112).toNat = B.length by omega, List.take_length]
    · rw [show (min (Vf.size l n).1 112).toNat = 112 by omega]
      obtain ⟨h1, h2, h3, h4⟩ := Wh.heads_take (L := B) (k := 112) (Nat.le_refl _)
      unfold hdOf
      rw [h1, h2, h3, h4]
end Wp
end Go.Proofs.YtbhfapbhlkgmfaaDoor

namespace Go.Proofs.YtbhfapbhlkgmfaaDoor
open Go.RowKit Go.Sort
open Fx (Vl)
open Me
open Wp

namespace Wp
/-- The first place that passes a test, or -1. -/
def seek (p : Nat → Bool) : Nat → Nat → Int
  | 0, _ => -1
  | m + 1, i => if p i = true then (i : Int) else seek p m (i + 1)
theorem seek_yes {p : Nat → Bool} {m i : Nat} (h : p i = true) : seek p (m + 1) i = (i : Int) := by unfold seek; rw [if_pos h]
theorem seek_no {p : Nat → Bool} {m i : Nat} (h : p i = false) : seek p (m + 1) i = seek p m (i + 1) := by
  conv => lhs; unfold seek
  rw [if_neg (by rw [h]; exact Bool.false_ne_true)]
theorem seek_none {p : Nat → Bool} : ∀ (m i : Nat), (∀ k, p k = false) → seek p m i = -1
  | 0, _, _ => rfl
  | m + 1, i, h => by rw [seek_no (h i)]; exact seek_none m (i + 1) h
theorem seek_first {h : Hd} {d : Int} : ∀ (m i : Nat), seek (fun k => decide (d < h.step k * h.cnt k)) m i = match first h d m i with | none => -1 | some j => (j : Int)
  | 0, _ => rfl
  | m + 1, i => by
    by_cases e : d < h.step i * h.cnt i
    · rw [seek_yes (by simpa using e), first_yes e]
    · rw [seek_no (by simpa using e), first_no e]
      exact seek_first m (i + 1)
end Wp

set_option maxHeartbeats 400000 in
theorem span_prog (s c m : Int) (hm : s * c = m) (hw : IntKind.i64.wrap m = m) (w : World) :
    Calls Tryd.prog 56 #[.agg #[.int .i64 s, .int .i64 c]] w fun e w' => e = .returned (.int .i64 m) ∧ Below w.heap.size w w' := by
  go_enter Tryd.func56, Tryd.ntmps56
  go_wp2_with fail
  go_ret
  exact ⟨by first | rfl | simp [hm, hw], (by repeat (first | exact Below.refl _ _ | assumption | refine Below.setCell ?_ (by first | (simp; done) | omega | (simp; omega) | (simp at *; omega)) _ | refine Below.alloc ?_ (by first | (simp; done) | omega | (simp; omega) | (simp at *; omega)) _ | refine Below.drew ?_ | (refine Below.trans ?_ (Below.mono (by assumption) (by first | (simp; done) | omega | (simp; omega) | (simp at *; omega)))) | (refine Below.trans ?_ (Below.mono (below_regrown _ _ _) (by first | (simp; done) | omega | (simp; omega) | (simp at *; omega))))))⟩

set_option maxHeartbeats 1000000 in
/-- The closure that asks whether an archive reaches so far back. -/
theorem reach_fn (sec s c m : Int) (hm : s * c = m) (hw : IntKind.i64.wrap m = m) (p : Nat) (w : World) (hp : w.cell? ⟨p, 0, none⟩ = some (.int .i64 sec)) (hpl : p < w.heap.size) :
    Calls Tryd.prog 55 #[.agg #[.int .i64 s, .int .i64 c], .pointer (some ⟨p, 0, none⟩)] w fun e w' => e = .returned (.bool (decide (sec ≤ m))) ∧ Below w.heap.size w w' := by
  have HS : Hid (∀ W, Calls Tryd.prog 56 #[.agg #[.int .i64 s, .int .i64 c]] W fun e w' => e = .returned (.int .i64 m) ∧ Below W.heap.size W w') := Lib.hid fun W => span_prog s c m hm hw W
  have hne : p ≠ w.heap.size := by omega
  have e1 : (w.alloc (.cells #[.int .i64 s, .int .i64 c] 30)).cell? ⟨p, 0, none⟩ = some (.int .i64 sec) := (((Below.refl _ w).alloc (Nat.le_refl _) _).cell (p := ⟨p, 0, none⟩) hpl).trans hp
  have e3 : (w.alloc (.cells #[.int .i64 s, .int .i64 c] 30)).cell? ⟨w.heap.size, 0, none⟩ = some (.int .i64 s) := (RowAt.new w _ _).cell 0
  have e4 : (w.alloc (.cells #[.int .i64 s, .int .i64 c] 30)).cell? ⟨w.heap.size, 1, none⟩ = some (.int .i64 c) := (RowAt.new w _ _).cell 1
  clear hm hp
  obtain ⟨q, hq⟩ : ∃ q, q = decide (sec ≤ m) := ⟨_, rfl⟩
  have HQ := Lib.hid hq
  rw [← hq]
  clear hq
  go_enter Tryd.func55, Tryd.ntmps55
  go_wp2_with fail
  go_region_held3 (fun W => W.cell? ⟨p, 0, none⟩ = some (.int .i64 sec) ∧ W.cell? ⟨w.heap.size, 0, none⟩ = some (.int .i64 s) ∧ W.cell? ⟨w.heap.size, 1, none⟩ = some (.int .i64 c)) (first | exact ⟨e1, e3, e4⟩ | exact ⟨f1, f3, f4⟩ | go_keep)
    (first | (go_at_call 56; (with_reducible refine (HS.out _).mono ?_); rintro e w2 ⟨rfl, hb2⟩; have f1 : w2.cell? ⟨p, 0, none⟩ = some (.int .i64 sec) := (hb2.cell (p := ⟨p, 0, none⟩) (by simp; omega)).trans e1; have f3 : w2.cell? ⟨w.heap.size, 0, none⟩ = some (.int .i64 s) := (hb2.cell (p := ⟨w.heap.size, 0, none⟩) (by simp)).trans e3; have f4 : w2.cell? ⟨w.heap.size, 1, none⟩ = some (.int .i64 c) := (hb2.cell (p := ⟨w.heap.size, 1, none⟩) (by simp)).trans e4; have HB2 : Hid (Below w.heap.size w w2) := Lib.hid (below_via hb2 (by repeat (first | exact Below.refl _ _ | assumption | refine Below.setCell ?_ (by first | (simp; done) | omega | (simp; omega) | (simp at *; omega)) _ | refine Below.alloc ?_ (by first | (simp; done) | omega | (simp; omega) | (simp at *; omega)) _ | refine Below.drew ?_ | refine below_drewN ?_ _ | (refine Below.trans ?_ (Below.mono (by assumption) (by first | (simp; done) | omega | (simp; omega) | (simp at *; omega)))) | (refine Below.trans ?_ (Below.mono (below_regrown _ _ _) (by first | (simp; done) | omega | (simp; omega) | (simp at *; omega))))))); clear hb2))
  all_goals go_wp2_with fail
  all_goals go_ret
  all_goals exact ⟨by rw [HQ.out]; rfl, HB2.out⟩

set_option maxHeartbeats 1000000 in
/-- The closure that asks whether an archive covers a time. -/
theorem cover_fn (at_ now s c m : Int) (hm : s * c = m) (hw : IntKind.i64.wrap m = m) (d : Int) (hd : now - at_ = d) (hwd : at_ ≤ now → IntKind.i64.wrap d = d) (p1 p2 : Nat) (w : World) (h1 : w.cell? ⟨p1, 0, none⟩ = some (.int .i64 at_)) (hl1 : p1 < w.heap.size) (h2 : w.cell? ⟨p2, 0, none⟩ = some (.int .i64 now)) (hl2 : p2 < w.heap.size) :
    Calls Tryd.prog 67 #[.agg #[.int .i64 s, .int .i64 c], .pointer (some ⟨p1, 0, none⟩), .pointer (some ⟨p2, 0, none⟩)] w fun e w' => e = .returned (.bool (decide (at_ ≤ now) && decide (d < m))) ∧ Below w.heap.size w w' := by
  have HS : Hid (∀ W, Calls Tryd.prog 56 #[.agg #[.int .i64 s, .int .i64 c]] W fun e w' => e = .returned (.int .i64 m) ∧ Below W.heap.size W w') := Lib.hid fun W => span_prog s c m hm hw W
  have hne1 : p1 ≠ w.heap.size := by omega
  have hne2 : p2 ≠ w.heap.size := by omega
  have hB : Below w.heap.size w (w.alloc (.cells #[.int .i64 s, .int .i64 c] 30)) := (Below.refl _ w).alloc (Nat.le_refl _) _
  have e1 : (w.alloc (.cells #[.int .i64 s, .int .i64 c] 30)).cell? ⟨p1, 0, none⟩ = some (.int .i64 at_) := (hB.cell (p := ⟨p1, 0, none⟩) hl1).trans h1
  have e2 : (w.alloc (.cells #[.int .i64 s, .int .i64 c] 30)).cell? ⟨p2, 0, none⟩ = some (.int .i64 now) := (hB.cell (p := ⟨p2, 0, none⟩) hl2).trans h2
  have e3 : (w.alloc (.cells #[.int .i64 s, .int .i64 c] 30)).cell? ⟨w.heap.size, 0, none⟩ = some (.int .i64 s) := (RowAt.new w _ _).cell 0
  have e4 : (w.alloc (.cells #[.int .i64 s, .int .i64 c] 30)).cell? ⟨w.heap.size, 1, none⟩ = some (.int .i64 c) := (RowAt.new w _ _).cell 1
  clear hm h1 h2
  by_cases hle : at_ ≤ now
  · have hwd' := hwd hle
    obtain ⟨q, hq⟩ : ∃ q, q = (decide (at_ ≤ now) && decide (d < m)) := ⟨_, rfl⟩
    have HQ : Hid (q = decide (d < m)) := Lib.hid (by rw [hq, decide_eq_true hle, Bool.true_and])
    rw [← hq]
    clear hq hwd
    go_enter Tryd.func67, Tryd.ntmps67
    go_wp2_with fail
    go_region_held3 (fun W => W.cell? ⟨p1, 0, none⟩ = some (.int .i64 at_) ∧ W.cell? ⟨p2, 0, none⟩ = some (.int .i64 now) ∧ W.cell? ⟨w.heap.size, 0, none⟩ = some (.int .i64 s) ∧ W.cell? ⟨w.heap.size, 1, none⟩ = some (.int .i64 c)) (first | exact ⟨e1, e2, e3, e4⟩ | exact ⟨f1, f2, f3, f4⟩ | go_keep)
      (first | (go_at_call 56; (with_reducible refine (HS.out _).mono ?_); rintro e w2 ⟨rfl, hb2⟩; have f1 : w2.cell? ⟨p1, 0, none⟩ = some (.int .i64 at_) := (hb2.cell (p := ⟨p1, 0, none⟩) (by simp; omega)).trans e1; have f2 : w2.cell? ⟨p2, 0, none⟩ = some (.int .i64 now) := (hb2.cell (p := ⟨p2, 0, none⟩) (by simp; omega)).trans e2; have f3 : w2.cell? ⟨w.heap.size, 0, none⟩ = some (.int .i64 s) := (hb2.cell (p := ⟨w.heap.size, 0, none⟩) (by simp)).trans e3; have f4 : w2.cell? ⟨w.heap.size, 1, none⟩ = some (.int .i64 c) := (hb2.cell (p := ⟨w.heap.size, 1, none⟩) (by simp)).trans e4; have HB2 : Hid (Below w.heap.size w w2) := Lib.hid (below_via hb2 (by repeat (first | exact Below.refl _ _ | assumption | refine Below.setCell ?_ (by first | (simp; done) | omega | (simp; omega) | (simp at *; omega)) _ | refine Below.alloc ?_ (by first | (simp; done) | omega | (simp; omega) | (simp at *; omega)) _ | refine Below.drew ?_ | refine below_drewN ?_ _ | (refine Below.trans ?_ (Below.mono (by assumption) (by first | (simp; done) | omega | (simp; omega) | (simp at *; omega)))) | (refine Below.trans ?_ (Below.mono (below_regrown _ _ _) (by first | (simp; done) | omega | (simp; omega) | (simp at *; omega))))))); clear hb2))
    all_goals go_wp2_with fail
    all_goals go_ret
    all_goals exact ⟨by rw [HQ.out]; rfl, HB2.out⟩
  · obtain ⟨q, hq⟩ : ∃ q, q = (decide (at_ ≤ now) && decide (d < m)) := ⟨_, rfl⟩
    have HQ : Hid (q = false) := Lib.hid (by rw [hq, decide_eq_false hle, Bool.false_and])
    rw [← hq]
    have hleb : decide (at_ ≤ now) = false := decide_eq_false hle
    have hXl1 : p1 < (w.alloc (.cells #[.int .i64 s, .int .i64 c] 30)).heap.size := by simp; omega
    have hXl2 : p2 < (w.alloc (.cells #[.int .i64 s, .int .i64 c] 30)).heap.size := by simp; omega
    have hB0 := hB
    clear hq hwd hB e3 e4
    go_enter Tryd.func67, Tryd.ntmps67
    go_wp2_with fail
    generalize w.alloc (.cells #[.int .i64 s, .int .i64 c] 30) = X at *
    refine Inv.region (fun W W' => Below W.heap.size W W') (fun i v W => match i with
      | 0 => v = .int .i64 at_
      | 1 => v = .int .i64 now
      | 2 => v = .bool false
      | 3 => v = .bool false
      | 4 => v = undef
      | 5 => v = undef
      | 6 => v = undef
      | 7 => v = undef
      | 8 => v = undef
      | 9 => v = undef
      | 10 => v = .bool false
      | 11 => v = .bool false
      | _ => True) (by kernel_rfl) (by kernel_rfl) (by kernel_rfl) (fun W => Below.refl _ _) (fun a b c h k => h.trans (k.mono h.size)) (fun i v W W' h he => ?stab) ?obls ?fin
    case stab =>
      match i, h with
      | 0, h => exact h
      | 1, h => exact h
      | 2, h => exact h
      | 3, h => exact h
      | 4, h => exact h
      | 5, h => exact h
      | 6, h => exact h
      | 7, h => exact h
      | 8, h => exact h
      | 9, h => exact h
      | 10, h => exact h
      | 11, h => exact h
      | _ + 12, h => exact h
    case obls =>
      refine .cons ?_ (.cons ?_ (.cons ?_ (.cons ?_ (.cons ?_ (.cons ?_ (.cons ?_ (.cons ?_ (.cons ?_ (.cons ?_ (.cons ?_ (.cons ?_ .nil)))))))))))
      · intro ac wx hE hf hd
        have hB : Below X.heap.size X wx := ⟨hE.os, hE.tape, hE.output, hE.size, hE.block⟩
        rw [if_pos (Inv.want0 rfl _)]
        have h1 : ac.eval (.tmp 1) = .pointer (some ⟨p1, 0, none⟩) := hf 1 (by kernel_rfl)
        clear hf hd
        have k1 := (hB.cell (p := ⟨p1, 0, none⟩) hXl1).trans e1
        have k2 := (hB.cell (p := ⟨p2, 0, none⟩) hXl2).trans e2
        refine Inv.val (.int .i64 at_) ?_ rfl rfl (Below.refl _ _)
        clear hE hB
        generalize ac.eval = ev at *
        simp [execOp, go_sem, *]
      · intro ac wx hE hf hd
        have hB : Below X.heap.size X wx := ⟨hE.os, hE.tape, hE.output, hE.size, hE.block⟩
        rw [if_pos (Inv.want0 rfl _)]
        have h2 : ac.eval (.tmp 2) = .pointer (some ⟨p2, 0, none⟩) := hf 2 (by kernel_rfl)
        clear hf hd
        have k1 := (hB.cell (p := ⟨p1, 0, none⟩) hXl1).trans e1
        have k2 := (hB.cell (p := ⟨p2, 0, none⟩) hXl2).trans e2
        refine Inv.val (.int .i64 now) ?_ rfl rfl (Below.refl _ _)
        clear hE hB
        generalize ac.eval = ev at *
        simp [execOp, go_sem, *]
      · intro ac wx hE hf hd
        have hB : Below X.heap.size X wx := ⟨hE.os, hE.tape, hE.output, hE.size, hE.block⟩
        rw [if_pos (Inv.want0 rfl _)]
        have h5 := hd 0 _ (by kernel_rfl) rfl
        change ac.eval (.tmp 5) = .int .i64 at_ at h5
        have h6 := hd 1 _ (by kernel_rfl) rfl
        change ac.eval (.tmp 6) = .int .i64 now at h6
        clear hf hd
        refine Inv.val (.bool false) ?_ rfl rfl (Below.refl _ _)
        clear hE hB
        generalize ac.eval = ev at *
        simp [execOp, go_sem, *]
      · intro ac wx hE hf hd
        have hB : Below X.heap.size X wx := ⟨hE.os, hE.tape, hE.output, hE.size, hE.block⟩
        rw [if_pos (Inv.want0 rfl _)]
        have h7 := hd 2 _ (by kernel_rfl) rfl
        change ac.eval (.tmp 7) = .bool false at h7
        clear hf hd
        have k1 := (hB.cell (p := ⟨p1, 0, none⟩) hXl1).trans e1
        have k2 := (hB.cell (p := ⟨p2, 0, none⟩) hXl2).trans e2
        refine Inv.val (.bool false) ?_ rfl rfl (Below.refl _ _)
        clear hE hB
        generalize ac.eval = ev at *
        simp [execOp, go_sem, *]
      · intro ac wx hE hf hd
        have hB : Below X.heap.size X wx := ⟨hE.os, hE.tape, hE.output, hE.size, hE.block⟩
        have hg := hd 3 _ (by kernel_rfl) rfl
        change ac.eval (.tmp 8) = .bool false at hg
        rw [if_neg (Inv.unwant (j := 3) (b := true) (c := false) (d := 8) rfl rfl rfl hg rfl)]
        all_goals exact rfl
      · intro ac wx hE hf hd
        have hB : Below X.heap.size X wx := ⟨hE.os, hE.tape, hE.output, hE.size, hE.block⟩
        have hg := hd 3 _ (by kernel_rfl) rfl
        change ac.eval (.tmp 8) = .bool false at hg
        rw [if_neg (Inv.unwant (j := 3) (b := true) (c := false) (d := 8) rfl rfl rfl hg rfl)]
        all_goals exact rfl
      · intro ac wx hE hf hd
        have hB : Below X.heap.size X wx := ⟨hE.os, hE.tape, hE.output, hE.size, hE.block⟩
        have hg := hd 3 _ (by kernel_rfl) rfl
        change ac.eval (.tmp 8) = .bool false at hg
        rw [if_neg (Inv.unwant (j := 3) (b := true) (c := false) (d := 8) rfl rfl rfl hg rfl)]
        all_goals exact rfl
      · intro ac wx hE hf hd
        have hB : Below X.heap.size X wx := ⟨hE.os, hE.tape, hE.output, hE.size, hE.block⟩
        have hg := hd 3 _ (by kernel_rfl) rfl
        change ac.eval (.tmp 8) = .bool false at hg
        rw [if_neg (Inv.unwant (j := 3) (b := true) (c := false) (d := 8) rfl rfl rfl hg rfl)]
        all_goals exact rfl
      · intro ac wx hE hf hd
        have hB : Below X.heap.size X wx := ⟨hE.os, hE.tape, hE.output, hE.size, hE.block⟩
        have hg := hd 3 _ (by kernel_rfl) rfl
        change ac.eval (.tmp 8) = .bool false at hg
        rw [if_neg (Inv.unwant (j := 3) (b := true) (c := false) (d := 8) rfl rfl rfl hg rfl)]
        all_goals exact rfl
      · intro ac wx hE hf hd
        have hB : Below X.heap.size X wx := ⟨hE.os, hE.tape, hE.output, hE.size, hE.block⟩
        have hg := hd 3 _ (by kernel_rfl) rfl
        change ac.eval (.tmp 8) = .bool false at hg
        rw [if_neg (Inv.unwant (j := 3) (b := true) (c := false) (d := 8) rfl rfl rfl hg rfl)]
        all_goals exact rfl
      · intro ac wx hE hf hd
        have hB : Below X.heap.size X wx := ⟨hE.os, hE.tape, hE.output, hE.size, hE.block⟩
        rw [if_pos (Inv.want0 rfl _)]
        have h8 := hd 3 _ (by kernel_rfl) rfl
        change ac.eval (.tmp 8) = .bool false at h8
        have h14 := hd 9 _ (by kernel_rfl) rfl
        change ac.eval (.tmp 14) = undef at h14
        clear hf hd
        have k1 := (hB.cell (p := ⟨p1, 0, none⟩) hXl1).trans e1
        have k2 := (hB.cell (p := ⟨p2, 0, none⟩) hXl2).trans e2
        refine Inv.val (.bool false) ?_ rfl rfl (Below.refl _ _)
        clear hE hB
        have hcst : ∀ v, ac.eval (.const v) = v := fun _ => rfl
        generalize ac.eval = ev at *
        simp [execOp, go_sem, *]
      · intro ac wx hE hf hd
        have hB : Below X.heap.size X wx := ⟨hE.os, hE.tape, hE.output, hE.size, hE.block⟩
        rw [if_pos (Inv.want0 rfl _)]
        have h15 := hd 10 _ (by kernel_rfl) rfl
        change ac.eval (.tmp 15) = .bool false at h15
        clear hf hd
        have k1 := (hB.cell (p := ⟨p1, 0, none⟩) hXl1).trans e1
        have k2 := (hB.cell (p := ⟨p2, 0, none⟩) hXl2).trans e2
        refine Inv.val (.bool false) ?_ rfl rfl (Below.refl _ _)
        clear hE hB
        generalize ac.eval = ev at *
        simp [execOp, go_sem, *]
    case fin =>
      intro ac wx hE ha hall
      have hB : Below X.heap.size X wx := ⟨hE.os, hE.tape, hE.output, hE.size, hE.block⟩
      have h5 := hall 0 _ rfl
      change ac.eval (.tmp 5) = .int .i64 at_ at h5
      have h6 := hall 1 _ rfl
      change ac.eval (.tmp 6) = .int .i64 now at h6
      have h7 := hall 2 _ rfl
      change ac.eval (.tmp 7) = .bool false at h7
      have h8 := hall 3 _ rfl
      change ac.eval (.tmp 8) = .bool false at h8
      have h9 := hall 4 _ rfl
      change ac.eval (.tmp 9) = undef at h9
      have h10 := hall 5 _ rfl
      change ac.eval (.tmp 10) = undef at h10
      have h11 := hall 6 _ rfl
      change ac.eval (.tmp 11) = undef at h11
      have h12 := hall 7 _ rfl
      change ac.eval (.tmp 12) = undef at h12
      have h13 := hall 8 _ rfl
      change ac.eval (.tmp 13) = undef at h13
      have h14 := hall 9 _ rfl
      change ac.eval (.tmp 14) = undef at h14
      have h15 := hall 10 _ rfl
      change ac.eval (.tmp 15) = .bool false at h15
      have h4 := hall 11 _ rfl
      change ac.eval (.tmp 4) = .bool false at h4
      simp only [List.foldl, Inv.slot, Act.put] at ha
      change ac.tmps.getD 5 undef = _ at h5
      change ac.tmps.getD 6 undef = _ at h6
      change ac.tmps.getD 7 undef = _ at h7
      change ac.tmps.getD 8 undef = _ at h8
      change ac.tmps.getD 9 undef = _ at h9
      change ac.tmps.getD 10 undef = _ at h10
      change ac.tmps.getD 11 undef = _ at h11
      change ac.tmps.getD 12 undef = _ at h12
      change ac.tmps.getD 13 undef = _ at h13
      change ac.tmps.getD 14 undef = _ at h14
      change ac.tmps.getD 15 undef = _ at h15
      change ac.tmps.getD 4 undef = _ at h4
      simp only [h5, h6, h7, h8, h9, h10, h11, h12, h13, h14, h15, h4, List.setIfInBounds_toArray, List.set_cons_zero, List.set_cons_succ] at ha
      clear h5 h6 h7 h8 h9 h10 h11 h12 h13 h14 h15 h4 hall hE
      subst ha
      go_wp2_with fail
      go_ret
      exact ⟨by rw [HQ.out]; rfl, hB0.trans (hB.mono hB0.size)⟩
end Go.Proofs.YtbhfapbhlkgmfaaDoor

namespace Go.Proofs.YtbhfapbhlkgmfaaDoor
open Go.RowKit Go.Sort
open Fx (Vl)
open Me
open Wp

set_option maxHeartbeats 1000000 in
theorem index_cover (l : List (Int × Int)) (A : Option Addr) (cap : Nat) (p1 p2 : Nat) (pr : Nat → Bool) (w : World) (hr : Row w A l cap) (h0 : 0 < l.length) (h8 : l.length ≤ 8)
    (hc : ∀ W i, i < l.length → Below w.heap.size w W → Calls Tryd.prog 67 #[.agg #[.int .i64 (Wh.At l i).1, .int .i64 (Wh.At l i).2], .pointer (some ⟨p1, 0, none⟩), .pointer (some ⟨p2, 0, none⟩)] W fun e w' => e = .returned (.bool (pr i)) ∧ Below W.heap.size W w') :
    Calls Tryd.prog 54 #[.slice A l.length cap, .func (.func 67) #[] #[.pointer (some ⟨p1, 0, none⟩), .pointer (some ⟨p2, 0, none⟩)]] w fun e w' => e = .returned (.int .i64 (seek pr l.length 0)) ∧ Below w.heap.size w w' := by
  have HR := Lib.hid hr
  have HC := Lib.hid hc
  have hlen : l.length ≤ cap := hr.1
  clear hr hc
  obtain ⟨N, hN⟩ : ∃ N, Hid (N = l.length) := ⟨_, Lib.hid rfl⟩
  have hN8 : N ≤ 8 := by rw [hN.out]; exact h8
  rw [← hN.out] at hlen ⊢
  obtain ⟨b, off, rfl, ha⟩ := HR.out.2 (by omega)
  have hbl := ha.lt
  have HA : Hid (∀ W i, i < N → Below w.heap.size w W → W.cell? ⟨b, off + i * 2, none⟩ = some (.int .i64 (Wh.At l i).1) ∧ W.cell? ⟨b, off + i * 2 + 1, none⟩ = some (.int .i64 (Wh.At l i).2) ∧ b < W.heap.size) := Lib.hid fun W i hi hb =>
    ⟨(hb.cell (p := ⟨b, off + i * 2, none⟩) hbl).trans (ha.st i (by rw [← hN.out]; exact hi)), (hb.cell (p := ⟨b, off + i * 2 + 1, none⟩) hbl).trans (ha.ct i (by rw [← hN.out]; exact hi)), Nat.lt_of_lt_of_le hbl hb.size⟩
  clear ha
  go_enter Tryd.func54, Tryd.ntmps54
  go_wp2_with fail
  go_loopw [5, 8] (fun _ u wr => ∃ i : Nat, i ≤ N ∧ u = .int .i64 i ∧ Hid (seek pr N 0 = seek pr (N - i) i) ∧ Below w.heap.size w wr) (fun _ u _ => N - (intOf u).toNat)
  case atStart => exact ⟨0, Nat.zero_le _, rfl, Lib.hid rfl, Below.refl _ _⟩
  case round =>
    obtain ⟨i, hi, rfl, HS, hbel⟩ := hrel
    have HB := Lib.hid hbel
    clear hbel
    by_cases hlt : i < N
    · have hiI : (i : Int) < (N : Int) := by omega
      have hi0 : (0 : Int) ≤ (i : Int) := by omega
      obtain ⟨s0, s1, hbw⟩ := HA.out wr i hlt HB.out
      have HCi := Lib.hid (HC.out wr i (by rw [← hN.out]; exact hlt) HB.out)
      obtain ⟨m, hm⟩ : ∃ m, N - i = m + 1 := ⟨N - i - 1, by omega⟩
      rw [hm] at HS
      have HM := Lib.hid hm
      clear hm
      generalize Wh.At l i = x at *
      obtain ⟨x1, x2⟩ := x
      cases hq : pr i with
      | true =>
        rw [hq] at HCi
        have HQ : Hid (seek pr N 0 = (i : Int)) := Lib.hid (by rw [HS.out, seek_yes hq])
        clear hq
        go_wp2_with (go_at_call 67; (with_reducible refine (HCi.out).mono ?_); rintro e w2 ⟨rfl, hb2⟩; have HB2 : Hid (Below w.heap.size w w2) := Lib.hid (below_via hb2 HB.out); clear hb2)
        go_ret
        exact ⟨by rw [HQ.out]; rfl, HB2.out⟩
      | false =>
        rw [hq] at HCi
        have HQ : Hid (seek pr N 0 = seek pr (N - (i + 1)) (i + 1)) := Lib.hid (by rw [HS.out, seek_no hq]; congr 1; have := HM.out; omega)
        clear hq
        go_wp2_with (go_at_call 67; (with_reducible refine (HCi.out).mono ?_); rintro e w2 ⟨rfl, hb2⟩; have HB2 : Hid (Below w.heap.size w w2) := Lib.hid (below_via hb2 HB.out); clear hb2)
        go_roundw
        case rel => exact ⟨i + 1, by omega, by go_num, HQ, HB2.out⟩
        case measure => simp [intOf]; omega
    · have hiN : i = N := by omega
      have hiI : ¬ (i : Int) < (N : Int) := by omega
      have HQ : Hid (seek pr N 0 = -1) := Lib.hid (by rw [HS.out, hiN, Nat.sub_self]; rfl)
      go_wp2_with fail
      go_ret
      exact ⟨by rw [HQ.out]; rfl, HB.out⟩

set_option maxHeartbeats 1000000 in
theorem index_reach (l : List (Int × Int)) (A : Option Addr) (cap : Nat) (p1 : Nat) (pr : Nat → Bool) (w : World) (hr : Row w A l cap) (h0 : 0 < l.length) (h8 : l.length ≤ 8)
    (hc : ∀ W i, i < l.length → Below w.heap.size w W → Calls Tryd.prog 55 #[.agg #[.int .i64 (Wh.At l i).1, .int .i64 (Wh.At l i).2], .pointer (some ⟨p1, 0, none⟩)] W fun e w' => e = .returned (.bool (pr i)) ∧ Below W.heap.size W w') :
    Calls Tryd.prog 54 #[.slice A l.length cap, .func (.func 55) #[] #[.pointer (some ⟨p1, 0, none⟩)]] w fun e w' => e = .returned (.int .i64 (seek pr l.length 0)) ∧ Below w.heap.size w w' := by
  have HR := Lib.hid hr
  have HC := Lib.hid hc
  have hlen : l.length ≤ cap := hr.1
  clear hr hc
  obtain ⟨N, hN⟩ : ∃ N, Hid (N = l.length) := ⟨_, Lib.hid rfl⟩
  have hN8 : N ≤ 8 := by rw [hN.out]; exact h8
  rw [← hN.out] at hlen ⊢
  obtain ⟨b, off, rfl, ha⟩ := HR.out.2 (by omega)
  have hbl := ha.lt
  have HA : Hid (∀ W i, i < N → Below w.heap.size w W → W.cell? ⟨b, off + i * 2, none⟩ = some (.int .i64 (Wh.At l i).1) ∧ W.cell? ⟨b, off + i * 2 + 1, none⟩ = some (.int .i64 (Wh.At l i).2) ∧ b < W.heap.size) := Lib.hid fun W i hi hb =>
    ⟨(hb.cell (p := ⟨b, off + i * 2, none⟩) hbl).trans (ha.st i (by rw [← hN.out]; exact hi)), (hb.cell (p := ⟨b, off + i * 2 + 1, none⟩) hbl).trans (ha.ct i (by rw [← hN.out]; exact hi)), Nat.lt_of_lt_of_le hbl hb.size⟩
  clear ha
  go_enter Tryd.func54, Tryd.ntmps54
  go_wp2_with fail
  go_loopw [5, 8] (fun _ u wr => ∃ i : Nat, i ≤ N ∧ u = .int .i64 i ∧ Hid (seek pr N 0 = seek pr (N - i) i) ∧ Below w.heap.size w wr) (fun _ u _ => N - (intOf u).toNat)
  case atStart => exact ⟨0, Nat.zero_le _, rfl, Lib.hid rfl, Below.refl _ _⟩
  case round =>
    obtain ⟨i, hi, rfl, HS, hbel⟩ := hrel
    have HB := Lib.hid hbel
    clear hbel
    by_cases hlt : i < N
    · have hiI : (i : Int) < (N : Int) := by omega
      have hi0 : (0 : Int) ≤ (i : Int) := by omega
      obtain ⟨s0, s1, hbw⟩ := HA.out wr i hlt HB.out
      have HCi := Lib.hid (HC.out wr i (by rw [← hN.out]; exact hlt) HB.out)
      obtain ⟨m, hm⟩ : ∃ m, N - i = m + 1 := ⟨N - i - 1, by omega⟩
      rw [hm] at HS
      have HM := Lib.hid hm
      clear hm
      generalize Wh.At l i = x at *
      obtain ⟨x1, x2⟩ := x
      cases hq : pr i with
      | true =>
        rw [hq] at HCi
        have HQ : Hid (seek pr N 0 = (i : Int)) := Lib.hid (by rw [HS.out, seek_yes hq])
        clear hq
        go_wp2_with (go_at_call 55; (with_reducible refine (HCi.out).mono ?_); rintro e w2 ⟨rfl, hb2⟩; have HB2 : Hid (Below w.heap.size w w2) := Lib.hid (below_via hb2 HB.out); clear hb2)
        go_ret
        exact ⟨by rw [HQ.out]; rfl, HB2.out⟩
      | false =>
        rw [hq] at HCi
        have HQ : Hid (seek pr N 0 = seek pr (N - (i + 1)) (i + 1)) := Lib.hid (by rw [HS.out, seek_no hq]; congr 1; have := HM.out; omega)
        clear hq
        go_wp2_with (go_at_call 55; (with_reducible refine (HCi.out).mono ?_); rintro e w2 ⟨rfl, hb2⟩; have HB2 : Hid (Below w.heap.size w w2) := Lib.hid (below_via hb2 HB.out); clear hb2)
        go_roundw
        case rel => exact ⟨i + 1, by omega, by go_num, HQ, HB2.out⟩
        case measure => simp [intOf]; omega
    · have hiN : i = N := by omega
      have hiI : ¬ (i : Int) < (N : Int) := by omega
      have HQ : Hid (seek pr N 0 = -1) := Lib.hid (by rw [HS.out, hiN, Nat.sub_self]; rfl)
      go_wp2_with fail
      go_ret
      exact ⟨by rw [HQ.out]; rfl, HB.out⟩

namespace Wp
/-- A header's file as a value of the program. -/
def fileV (h : Hd) (A : Option Addr) (cap fs : Nat) (n : List UInt8) : Value := .agg #[.int .i64 h.ag, .int .i64 h.xf, .slice A h.l.length cap, .pointer (some ⟨fs, 0, none⟩), .string ⟨n.toArray⟩]
theorem span_num {h : Hd} (hv : h.val = true) {i : Nat} (hi : i < h.l.length) : 0 ≤ h.step i * h.cnt i ∧ IntKind.i64.wrap (h.step i * h.cnt i) = h.step i * h.cnt i := by
  obtain ⟨⟨n1, n2⟩, n3, n4⟩ := Hd.nums hv i hi
  have h1 : 0 ≤ h.step i * h.cnt i := Int.mul_nonneg (by omega) (by omega)
  have h2 := Int.mul_le_mul n2 n4 (by omega) (by omega)
  exact ⟨h1, IntWalk.i64_in _ (by omega)⟩
end Wp

set_option maxHeartbeats 1000000 in
theorem covering_any {w : World} {fs : Nat} {n : List UInt8} {h : Hd} {A : Option Addr} {cap : Nat} (hr : Row w A h.l cap) (hv : h.val = true) (now t d : Int) (h1 : 1 ≤ t) (h2 : now ≤ 4294967295) (hd : now - t = d) :
    Calls Tryd.prog 50 #[fileV h A cap fs n, .int .i64 now, .int .i64 t] w fun e w' => e = .returned (.int .i64 (if t ≤ now then find h d else -1)) ∧ Below w.heap.size w w' := by
  have HIX : Hid (∀ (W : World) (p1 p2 : Nat), Below w.heap.size w W → W.cell? ⟨p1, 0, none⟩ = some (.int .i64 t) → p1 < W.heap.size → W.cell? ⟨p2, 0, none⟩ = some (.int .i64 now) → p2 < W.heap.size → Calls Tryd.prog 54 #[.slice A h.l.length cap, .func (.func 67) #[] #[.pointer (some ⟨p1, 0, none⟩), .pointer (some ⟨p2, 0, none⟩)]] W fun e w' => e = .returned (.int .i64 (seek (fun i => decide (t ≤ now) && decide (d < h.step i * h.cnt i)) h.l.length 0)) ∧ Below W.heap.size W w') := Lib.hid fun W p1 p2 hb c1 l1 c2 l2 =>
    index_cover h.l A cap p1 p2 _ W (hr.below hb) (by have := Hd.len hv; omega) (by have := Hd.len hv; omega) fun X i hi hbx => cover_fn t now _ _ _ rfl (span_num hv hi).2 d hd (fun hle => IntWalk.i64_in _ (by omega)) p1 p2 X ((hbx.cell (p := ⟨p1, 0, none⟩) l1).trans c1) (Nat.lt_of_lt_of_le l1 hbx.size) ((hbx.cell (p := ⟨p2, 0, none⟩) l2).trans c2) (Nat.lt_of_lt_of_le l2 hbx.size)
  obtain ⟨q, hq⟩ : ∃ q, q = seek (fun i => decide (t ≤ now) && decide (d < h.step i * h.cnt i)) h.l.length 0 := ⟨_, rfl⟩
  rw [← hq] at HIX
  have HQ : Hid (q = if t ≤ now then find h d else -1) := Lib.hid (by
    rw [hq]
    by_cases hle : t ≤ now
    · rw [if_pos hle, decide_eq_true hle]
      simp only [Bool.true_and]
      exact seek_first _ _
    · rw [if_neg hle, decide_eq_false hle]
      exact seek_none _ _ fun _ => by simp)
  clear hq hr
  rw [← HQ.out]
  unfold fileV
  generalize h.l.length = N at *
  generalize h.ag = ag at *
  generalize h.xf = xf at *
  go_enter Tryd.func50, Tryd.ntmps50
  go_wp2_with (go_at_call 54; (with_reducible refine (HIX.out _ _ _ (by repeat (first | exact Below.refl _ _ | assumption | refine Below.setCell ?_ (by first | (simp; done) | omega | (simp; omega) | (simp at *; omega)) _ | refine Below.alloc ?_ (by first | (simp; done) | omega | (simp; omega) | (simp at *; omega)) _ | refine Below.drew ?_ | (refine Below.trans ?_ (Below.mono (by assumption) (by first | (simp; done) | omega | (simp; omega) | (simp at *; omega)))) | (refine Below.trans ?_ (Below.mono (below_regrown _ _ _) (by first | (simp; done) | omega | (simp; omega) | (simp at *; omega)))))) (by simp [go_sem]) (by simp) (by simp [go_sem]) (by simp)).mono ?_); rintro e w2 ⟨rfl, hb2⟩)
  go_ret
  exact ⟨rfl, (by repeat (first | exact Below.refl _ _ | assumption | refine Below.setCell ?_ (by first | (simp; done) | omega | (simp; omega) | (simp at *; omega)) _ | refine Below.alloc ?_ (by first | (simp; done) | omega | (simp; omega) | (simp at *; omega)) _ | refine Below.drew ?_ | (refine Below.trans ?_ (Below.mono (by assumption) (by first | (simp; done) | omega | (simp; omega) | (simp at *; omega)))) | (refine Below.trans ?_ (Below.mono (below_regrown _ _ _) (by first | (simp; done) | omega | (simp; omega) | (simp at *; omega))))))⟩

set_option maxHeartbeats 1000000 in
theorem reaching_any {w : World} {fs : Nat} {n : List UInt8} {h : Hd} {A : Option Addr} {cap : Nat} (hr : Row w A h.l cap) (hv : h.val = true) (sec : Int) :
    Calls Tryd.prog 29 #[fileV h A cap fs n, .int .i64 sec] w fun e w' => e = .returned (.int .i64 (find h (sec - 1))) ∧ Below w.heap.size w w' := by
  have HIX : Hid (∀ (W : World) (p1 : Nat), Below w.heap.size w W → W.cell? ⟨p1, 0, none⟩ = some (.int .i64 sec) → p1 < W.heap.size → Calls Tryd.prog 54 #[.slice A h.l.length cap, .func (.func 55) #[] #[.pointer (some ⟨p1, 0, none⟩)]] W fun e w' => e = .returned (.int .i64 (seek (fun i => decide (sec ≤ h.step i * h.cnt i)) h.l.length 0)) ∧ Below W.heap.size W w') := Lib.hid fun W p1 hb c1 l1 =>
    index_reach h.l A cap p1 _ W (hr.below hb) (by have := Hd.len hv; omega) (by have := Hd.len hv; omega) fun X i hi hbx => reach_fn sec _ _ _ rfl (span_num hv hi).2 p1 X ((hbx.cell (p := ⟨p1, 0, none⟩) l1).trans c1) (Nat.lt_of_lt_of_le l1 hbx.size)
  obtain ⟨q, hq⟩ : ∃ q, q = seek (fun i => decide (sec ≤ h.step i * h.cnt i)) h.l.length 0 := ⟨_, rfl⟩
  rw [← hq] at HIX
  have HQ : Hid (q = find h (sec - 1)) := Lib.hid (by
    rw [hq]
    have e : (fun i => decide (sec ≤ h.step i * h.cnt i)) = fun i => decide (sec - 1 < h.step i * h.cnt i) := funext fun i => by
      rw [Bool.eq_iff_iff]; simp only [decide_eq_true_eq]; omega
    rw [e]
    exact seek_first _ _)
  clear hq hr
  rw [← HQ.out]
  unfold fileV
  generalize h.l.length = N at *
  generalize h.ag = ag at *
  generalize h.xf = xf at *
  go_enter Tryd.func29, Tryd.ntmps29
  go_wp2_with (go_at_call 54; (with_reducible refine (HIX.out _ _ (by repeat (first | exact Below.refl _ _ | assumption | refine Below.setCell ?_ (by first | (simp; done) | omega | (simp; omega) | (simp at *; omega)) _ | refine Below.alloc ?_ (by first | (simp; done) | omega | (simp; omega) | (simp at *; omega)) _ | refine Below.drew ?_ | (refine Below.trans ?_ (Below.mono (by assumption) (by first | (simp; done) | omega | (simp; omega) | (simp at *; omega)))) | (refine Below.trans ?_ (Below.mono (below_regrown _ _ _) (by first | (simp; done) | omega | (simp; omega) | (simp at *; omega)))))) (by simp [go_sem]) (by simp)).mono ?_); rintro e w2 ⟨rfl, hb2⟩)
  go_ret
  exact ⟨rfl, (by repeat (first | exact Below.refl _ _ | assumption | refine Below.setCell ?_ (by first | (simp; done) | omega | (simp; omega) | (simp at *; omega)) _ | refine Below.alloc ?_ (by first | (simp; done) | omega | (simp; omega) | (simp at *; omega)) _ | refine Below.drew ?_ | (refine Below.trans ?_ (Below.mono (by assumption) (by first | (simp; done) | omega | (simp; omega) | (simp at *; omega)))) | (refine Below.trans ?_ (Below.mono (below_regrown _ _ _) (by first | (simp; done) | omega | (simp; omega) | (simp at *; omega))))))⟩
end Go.Proofs.YtbhfapbhlkgmfaaDoor

namespace Go.Proofs.YtbhfapbhlkgmfaaDoor
namespace Vp
open Vf

def look : List Fl → List UInt8 → Option (List UInt8)
  | [], _ => none
  | f :: r, n => if f.name = n then some f.b else look r n
def Uniq (l : List Fl) : Prop := l.Pairwise (fun f g => f.name ≠ g.name)

theorem ixFrom_look (n : List UInt8) : ∀ (l : List Fl) (k : Nat), (look l n = none ∧ ixFrom n k l = -1) ∨ ∃ j, ∃ h : j < l.length, ixFrom n k l = ((k + j : Nat) : Int) ∧ look l n = some l[j].b ∧ l[j].name = n
  | [], _ => .inl ⟨rfl, rfl⟩
  | f :: r, k => by
    by_cases e : f.name = n
    · refine .inr ⟨0, by simp, ?_, ?_, e⟩
      · rw [ixFrom, if_pos (by simpa using e)]; simp
      · rw [look, if_pos e]; rfl
    · have e1 : ixFrom n k (f :: r) = ixFrom n (k + 1) r := by rw [ixFrom, if_neg (by simpa using e)]
      have e2 : look (f :: r) n = look r n := by rw [look, if_neg e]
      rw [e1, e2]
      rcases ixFrom_look n r (k + 1) with h | ⟨j, hj, h1, h2, h3⟩
      · exact .inl h
      · exact .inr ⟨j + 1, by simpa using hj, by rw [h1]; congr 1; omega, by simpa using h2, by simpa using h3⟩
theorem ix_none {l : List Fl} {n : List UInt8} (h : look l n = none) : ix l n = -1 := by
  rcases ixFrom_look n l 0 with h1 | ⟨j, hj, h1, h2, h3⟩
  · exact h1.2
  · rw [h] at h2; cases h2
theorem ix_some {l : List Fl} {n b : List UInt8} (h : look l n = some b) : ¬ ix l n < 0 ∧ bytesAt l n = b := by
  rcases ixFrom_look n l 0 with h1 | ⟨j, hj, h1, h2, h3⟩
  · rw [h] at h1; cases h1.1
  · have e : ix l n = (j : Int) := by rw [ix, h1]; congr 1; omega
    rw [h] at h2
    refine ⟨by omega, ?_⟩
    unfold bytesAt
    rw [e]
    simp [hj]
    exact (Option.some.inj h2).symm
theorem look_mem {l : List Fl} {n b : List UInt8} (h : look l n = some b) : ∃ f ∈ l, f.name = n ∧ f.b = b := by
  induction l with
  | nil => cases h
  | cons f r ih =>
    by_cases e : f.name = n
    · rw [look, if_pos e] at h; exact ⟨f, by simp, e, Option.some.inj h⟩
    · rw [look, if_neg e] at h
      obtain ⟨g, hg, h1⟩ := ih h
      exact ⟨g, by simp [hg], h1⟩
theorem look_used {l : List Fl} {n b : List UInt8} (h : look l n = some b) : b.length ≤ Vf.used l := by
  obtain ⟨f, hf, _, rfl⟩ := look_mem h
  exact used_mem hf

theorem look_append (l m : List Fl) (n : List UInt8) : look (l ++ m) n = (look l n).or (look m n) := by
  induction l with
  | nil => simp [look]
  | cons f r ih =>
    rw [List.cons_append, look, look]
    split
    · simp
    · exact ih
def wr (n : List UInt8) (o : Nat) (b : List UInt8) (f : Fl) : Fl := if f.name = n then ⟨f.name, upd f.b o b⟩ else f
theorem wr_name (n : List UInt8) (o : Nat) (b : List UInt8) (f : Fl) : (wr n o b f).name = f.name := by unfold wr; split <;> rfl
theorem look_wr (n : List UInt8) (o : Nat) (b : List UInt8) (l : List Fl) (m : List UInt8) : look (l.map (wr n o b)) m = if m = n then (look l m).map (fun x => upd x o b) else look l m := by
  induction l with
  | nil => simp [look]
  | cons f r ih =>
    rw [List.map_cons, look, look, wr_name]
    by_cases e : f.name = m
    · rw [if_pos e, if_pos e]
      by_cases e2 : m = n
      · subst e; subst e2; simp [wr]
      · rw [if_neg e2]; unfold wr; rw [if_neg (by rw [e]; exact e2)]
    · rw [if_neg e, if_neg e, ih]
theorem look_out (n : List UInt8) (l : List Fl) (m : List UInt8) : look (l.filter (fun f => decide (f.name ≠ n))) m = if m = n then none else look l m := by
  induction l with
  | nil => simp [look]
  | cons f r ih =>
    rw [List.filter_cons]
    by_cases e : f.name = n
    · simp only [e, ne_eq, not_true_eq_false, decide_false, Bool.false_eq_true, if_false]
      rw [ih, look]
      by_cases e2 : m = n
      · rw [if_pos e2, if_pos e2]
      · rw [if_neg e2, if_neg e2, if_neg (by rw [e]; exact fun h => e2 h.symm)]
    · simp only [ne_eq, e, not_false_eq_true, decide_true, if_true]
      rw [look, look, ih]
      by_cases e2 : f.name = m
      · rw [if_pos e2, if_pos e2, if_neg (by rw [← e2]; exact e)]
      · rw [if_neg e2, if_neg e2]
theorem look_absent {l : List Fl} {n : List UInt8} (h : ∀ f ∈ l, f.name ≠ n) : look l n = none := by
  cases hl : look l n with
  | none => rfl
  | some b =>
    obtain ⟨f, hf, e, _⟩ := look_mem hl
    exact absurd e (h f hf)
theorem look_none_mem {l : List Fl} {n : List UInt8} (h : look l n = none) : ∀ f ∈ l, f.name ≠ n := by
  induction l with
  | nil => intro f hf; cases hf
  | cons g r ih =>
    by_cases e : g.name = n
    · rw [look, if_pos e] at h; cases h
    · rw [look, if_neg e] at h
      intro f hf
      rcases List.mem_cons.1 hf with rfl | hf
      · exact e
      · exact ih h f hf

/-! what an act does, by its kind -/
theorem goes_past (a : Ac) (i : Int) : ∀ (l : List Fl) (k : Nat), i < (k : Int) → goes a i k l = l
  | [], _, _ => rfl
  | x :: r, k, h => by
    rw [goes, goes_past a i r (k + 1) (by omega)]
    unfold one
    rw [if_neg (fun hh => by omega), if_neg (fun hh => by omega)]
    rfl
theorem goes_one (a : Ac) (h1 : a.kind ≠ 2) (h2 : a.kind ≠ 3) (i : Int) : ∀ (l : List Fl) (k : Nat), goes a i k l = l
  | [], _ => rfl
  | x :: r, k => by
    rw [goes, goes_one a h1 h2 i r (k + 1)]
    unfold one
    rw [if_neg (fun hh => h1 hh.2), if_neg (fun hh => h2 hh.2)]
    rfl
theorem ixFrom_ge (n : List UInt8) (l : List Fl) (k : Nat) : ixFrom n k l = -1 ∨ (k : Int) ≤ ixFrom n k l := by
  rcases ixFrom_look n l k with h | ⟨j, _, h, _⟩
  · exact .inl h.2
  · exact .inr (by omega)
theorem goes_two (a : Ac) (h2 : a.kind = 2) : ∀ (l : List Fl) (k : Nat), Uniq l → goes a (ixFrom a.name k l) k l = l.map (wr a.name a.off a.p)
  | [], _, _ => rfl
  | x :: r, k, hu => by
    obtain ⟨hx, hr⟩ := List.pairwise_cons.1 hu
    by_cases e : x.name = a.name
    · have e1 : ixFrom a.name k (x :: r) = (k : Int) := by rw [ixFrom, if_pos (by simpa using e)]
      rw [e1, goes, goes_past a _ r (k + 1) (by omega), List.map_cons]
      have er : r.map (wr a.name a.off a.p) = r := by
        conv => rhs; rw [← List.map_id r]
        apply List.map_congr_left
        intro f hf
        unfold wr
        rw [if_neg (fun h => hx f hf (by rw [e, h]))]
        rfl
      rw [er]
      unfold one wr
      rw [if_pos ⟨rfl, h2⟩, if_pos e]
      rfl
    · have e1 : ixFrom a.name k (x :: r) = ixFrom a.name (k + 1) r := by rw [ixFrom, if_neg (by simpa using e)]
      have hg := ixFrom_ge a.name r (k + 1)
      rw [e1, goes, goes_two a h2 r (k + 1) hr, List.map_cons]
      unfold one
      rw [if_neg (fun hh => by omega), if_neg (fun hh => by omega)]
      unfold wr
      rw [if_neg e]
      rfl
theorem goes_three (a : Ac) (h3 : a.kind = 3) : ∀ (l : List Fl) (k : Nat), Uniq l → goes a (ixFrom a.name k l) k l = l.filter (fun f => decide (f.name ≠ a.name))
  | [], _, _ => rfl
  | x :: r, k, hu => by
    obtain ⟨hx, hr⟩ := List.pairwise_cons.1 hu
    by_cases e : x.name = a.name
    · have e1 : ixFrom a.name k (x :: r) = (k : Int) := by rw [ixFrom, if_pos (by simpa using e)]
      rw [e1, goes, goes_past a _ r (k + 1) (by omega), List.filter_cons]
      have er : r.filter (fun f => decide (f.name ≠ a.name)) = r := by
        apply List.filter_eq_self.2
        intro f hf
        simp only [ne_eq, decide_eq_true_eq]
        exact fun h => hx f hf (by rw [e, h])
      rw [er]
      unfold one
      rw [if_neg (fun hh => by have := hh.2; omega), if_pos ⟨rfl, h3⟩]
      simp [e]
    · have e1 : ixFrom a.name k (x :: r) = ixFrom a.name (k + 1) r := by rw [ixFrom, if_neg (by simpa using e)]
      have hg := ixFrom_ge a.name r (k + 1)
      rw [e1, goes, goes_three a h3 r (k + 1) hr, List.filter_cons]
      unfold one
      rw [if_neg (fun hh => by omega), if_neg (fun hh => by omega)]
      simp [e]
theorem does_one (l : List Fl) (n : List UInt8) (o : Nat) (b : List UInt8) : does l ⟨1, n, o, b⟩ = l ++ [⟨n, b⟩] := by
  unfold does
  rw [goes_one _ (show (1 : Int) ≠ 2 by decide) (show (1 : Int) ≠ 3 by decide)]
  rfl
theorem does_two (l : List Fl) (hu : Uniq l) (n : List UInt8) (o : Nat) (b : List UInt8) : does l ⟨2, n, o, b⟩ = l.map (wr n o b) := by
  unfold does ix
  rw [goes_two ⟨2, n, o, b⟩ rfl l 0 hu]
  simp
theorem does_three (l : List Fl) (hu : Uniq l) (n : List UInt8) (o : Nat) (b : List UInt8) : does l ⟨3, n, o, b⟩ = l.filter (fun f => decide (f.name ≠ n)) := by
  unfold does ix
  rw [goes_three ⟨3, n, o, b⟩ rfl l 0 hu]
  simp
theorem uniq_one {l : List Fl} (hu : Uniq l) {n b : List UInt8} (h : look l n = none) : Uniq (l ++ [⟨n, b⟩]) := by
  refine List.pairwise_append.2 ⟨hu, by simp, fun f hf g hg => ?_⟩
  rw [List.mem_singleton] at hg
  subst hg
  exact look_none_mem h f hf
theorem uniq_two {l : List Fl} (hu : Uniq l) (n : List UInt8) (o : Nat) (b : List UInt8) : Uniq (l.map (wr n o b)) := by
  refine List.pairwise_map.2 (hu.imp fun {f g} h => ?_)
  rw [wr_name, wr_name]
  exact h
theorem uniq_three {l : List Fl} (hu : Uniq l) (n : List UInt8) : Uniq (l.filter (fun f => decide (f.name ≠ n))) := List.Pairwise.filter _ hu
theorem used_two (n : List UInt8) (o : Nat) (b : List UInt8) : ∀ (l : List Fl), Uniq l → (∀ x, look l n = some x → o + b.length ≤ x.length) → Vf.used (l.map (wr n o b)) = Vf.used l
  | [], _, _ => rfl
  | f :: r, hu, h => by
    obtain ⟨hx, hr⟩ := List.pairwise_cons.1 hu
    rw [List.map_cons, used_cons, used_cons]
    by_cases e : f.name = n
    · have h1 := h f.b (by rw [look, if_pos e])
      have er : r.map (wr n o b) = r := by
        conv => rhs; rw [← List.map_id r]
        apply List.map_congr_left
        intro g hg
        unfold wr
        rw [if_neg (fun h => hx g hg (by rw [e, h]))]
        rfl
      rw [er]
      unfold wr
      rw [if_pos e]
      show (upd f.b o b).length + _ = _
      rw [upd_len h1]
    · rw [used_two n o b r hr (fun x hx => h x (by rw [look, if_neg e]; exact hx))]
      unfold wr
      rw [if_neg e]
theorem used_three (n : List UInt8) : ∀ (l : List Fl), Uniq l → Vf.used (l.filter (fun f => decide (f.name ≠ n))) + ((look l n).getD []).length = Vf.used l
  | [], _ => rfl
  | f :: r, hu => by
    obtain ⟨hx, hr⟩ := List.pairwise_cons.1 hu
    rw [List.filter_cons, used_cons, look]
    by_cases e : f.name = n
    · have er : r.filter (fun f => decide (f.name ≠ n)) = r := by
        apply List.filter_eq_self.2
        intro g hg
        simp only [ne_eq, decide_eq_true_eq]
        exact fun h => hx g hg (by rw [e, h])
      rw [er]
      simp [e]
      omega
    · have := used_three n r hr
      simp [e, used_cons] at this ⊢
      omega

/-! the program's own files -/
structure Op where
  kind : Int
  on : Nat
  at_ : Nat
  old : List UInt8
structure Co where
  map : List UInt8 → Option Nat
  sto : Nat → Fl
  used : Int
def setM (m : List UInt8 → Option Nat) (n : List UInt8) (v : Option Nat) : List UInt8 → Option Nat := fun x => if x = n then v else m x
def setS (s : Nat → Fl) (i : Nat) (f : Fl) : Nat → Fl := fun x => if x = i then f else s x
theorem setM_same (m : List UInt8 → Option Nat) (n : List UInt8) (v : Option Nat) : setM m n v n = v := by simp [setM]
theorem setM_back (m : List UInt8 → Option Nat) (n : List UInt8) (v u : Option Nat) (h : m n = u) : setM (setM m n v) n u = m := by
  funext x
  unfold setM
  by_cases e : x = n
  · rw [if_pos e, e, h]
  · rw [if_neg e, if_neg e]
theorem setS_same (s : Nat → Fl) (i : Nat) (f : Fl) : setS s i f i = f := by simp [setS]
theorem setS_back (s : Nat → Fl) (i : Nat) (f : Fl) : setS (setS s i f) i (s i) = s := by
  funext x
  unfold setS
  by_cases e : x = i
  · rw [if_pos e, e]
  · rw [if_neg e, if_neg e]
theorem setS_twice (s : Nat → Fl) (i : Nat) (f g : Fl) : setS (setS s i f) i g = setS s i g := by
  funext x
  unfold setS
  by_cases e : x = i
  · rw [if_pos e, if_pos e]
  · rw [if_neg e, if_neg e, if_neg e]
def Co.put (c : Co) (id : Nat) : Co := ⟨setM c.map (c.sto id).name (some id), c.sto, c.used + (c.sto id).b.length⟩
def Co.drop (c : Co) (id : Nat) : Co := ⟨setM c.map (c.sto id).name none, c.sto, c.used - (c.sto id).b.length⟩
def Co.lay (c : Co) (id : Nat) (f : Fl) : Co := ⟨c.map, setS c.sto id f, c.used⟩
def Co.over (c : Co) (id : Nat) (o : Nat) (b : List UInt8) : Co := c.lay id ⟨(c.sto id).name, upd (c.sto id).b o b⟩
def stay (o : Op) (m : Int) : Nat := (min (max m 0) (o.old.length : Int)).toNat
def Co.undo (c : Co) (o : Op) (m : Int) : Co := if o.kind = 1 then c.drop o.on else if o.kind = 2 then c.over o.on (o.at_ + stay o m) (o.old.drop (stay o m)) else c.put o.on

structure View (c : Co) (l : List Fl) : Prop where
  look : ∀ n, (c.map n).map (fun id => (c.sto id).b) = look l n
  name : ∀ n id, c.map n = some id → (c.sto id).name = n
  used : c.used = (Vf.used l : Int)
  uniq : Uniq l
theorem View.agree {c : Co} {l : List Fl} (h : View c l) {I : Nat → Prop} (hI : ∀ n id, c.map n = some id → I id) {s : Nat → Fl} (hs : ∀ id, I id → s id = c.sto id) : View ⟨c.map, s, c.used⟩ l := by
  refine ⟨fun n => ?_, fun n id e => ?_, h.used, h.uniq⟩
  · rw [← h.look n]
    show (c.map n).map (fun id => (s id).b) = _
    cases e : c.map n with
    | none => rfl
    | some id => simp [hs id (hI n id e)]
  · show (s id).name = n
    rw [hs id (hI n id e)]
    exact h.name n id e
theorem View.none_ {c : Co} {l : List Fl} (h : View c l) {n : List UInt8} (e : c.map n = none) : Vp.look l n = none := by rw [← h.look n, e]; rfl
theorem View.some_ {c : Co} {l : List Fl} (h : View c l) {n : List UInt8} {id : Nat} (e : c.map n = some id) : Vp.look l n = some (c.sto id).b := by rw [← h.look n, e]; rfl
theorem View.make {c : Co} {l : List Fl} (h : View c l) {n b : List UInt8} {id : Nat} (hn : c.map n = none) (hid : ∀ m i, c.map m = some i → i ≠ id) : View ((c.lay id ⟨n, b⟩).put id) (does l ⟨1, n, 0, b⟩) := by
  have e0 : (c.lay id ⟨n, b⟩).sto id = ⟨n, b⟩ := setS_same _ _ _
  have hl := h.none_ hn
  rw [does_one]
  refine ⟨fun m => ?_, fun m i e => ?_, ?_, uniq_one h.uniq hl⟩
  · rw [look_append]
    show (setM c.map ((c.lay id ⟨n, b⟩).sto id).name (some id) m).map (fun i => ((c.lay id ⟨n, b⟩).sto i).b) = _
    rw [e0]
    unfold setM
    by_cases e : m = n
    · subst e
      simp [e0, hl, Vp.look]
    · simp only [e, if_false]
      have e2 : Vp.look [⟨n, b⟩] m = none := by rw [Vp.look, if_neg (fun h => e h.symm)]; rfl
      rw [e2, Option.or_none, ← h.look m]
      cases e3 : c.map m with
      | none => rfl
      | some i =>
        have : (c.lay id ⟨n, b⟩).sto i = c.sto i := by show setS c.sto id ⟨n, b⟩ i = _; unfold setS; rw [if_neg (hid m i e3)]
        simp [this]
  · have e : setM c.map ((c.lay id ⟨n, b⟩).sto id).name (some id) m = some i := e
    show ((c.lay id ⟨n, b⟩).sto i).name = m
    rw [e0] at e
    unfold setM at e
    by_cases e1 : m = n
    · subst e1
      simp at e
      subst e
      rw [e0]
    · simp only [e1, if_false] at e
      have : (c.lay id ⟨n, b⟩).sto i = c.sto i := by show setS c.sto id ⟨n, b⟩ i = _; unfold setS; rw [if_neg (hid m i e)]
      rw [this]
      exact h.name m i e
  · rw [used_append]
    show c.used + (((c.lay id ⟨n, b⟩).sto id).b.length : Int) = _
    rw [e0, h.used]
    simp [Vf.used]
theorem View.inj {c : Co} {l : List Fl} (h : View c l) {m n : List UInt8} {id : Nat} (e : c.map m = some id) (e2 : c.map n = some id) : m = n := (h.name m id e).symm.trans (h.name n id e2)
theorem View.over {c : Co} {l : List Fl} (h : View c l) {n b : List UInt8} {o id : Nat} (hn : c.map n = some id) (hf : o + b.length ≤ (c.sto id).b.length) : View (c.over id o b) (does l ⟨2, n, o, b⟩) := by
  rw [does_two l h.uniq]
  have hs : ∀ i, i ≠ id → (c.over id o b).sto i = c.sto i := fun i hi => by show setS c.sto id _ i = _; unfold setS; rw [if_neg hi]
  have h0 : (c.over id o b).sto id = ⟨(c.sto id).name, upd (c.sto id).b o b⟩ := setS_same _ _ _
  refine ⟨fun m => ?_, fun m i e => ?_, ?_, uniq_two h.uniq _ _ _⟩
  · rw [look_wr, ← h.look m]
    show (c.map m).map (fun i => ((c.over id o b).sto i).b) = _
    cases e : c.map m with
    | none => simp
    | some i =>
      by_cases e1 : m = n
      · subst e1
        rw [hn] at e
        obtain rfl := Option.some.inj e
        simp [h0]
      · have hi : i ≠ id := fun e2 => e1 (h.inj (e2 ▸ e) hn)
        simp [hs i hi, e1]
  · have e : c.map m = some i := e
    by_cases hi : i = id
    · subst hi
      rw [h0]
      exact h.name m i e
    · rw [hs i hi]
      exact h.name m i e
  · show c.used = _
    rw [h.used, used_two n o b l h.uniq (fun x hx => by rw [h.some_ hn] at hx; obtain rfl := Option.some.inj hx; exact hf)]
theorem View.drop {c : Co} {l : List Fl} (h : View c l) {n : List UInt8} {id : Nat} (hn : c.map n = some id) (o : Nat) (b : List UInt8) : View (c.drop id) (does l ⟨3, n, o, b⟩) := by
  rw [does_three l h.uniq]
  have hnm := h.name n id hn
  refine ⟨fun m => ?_, fun m i e => ?_, ?_, uniq_three h.uniq _⟩
  · rw [look_out, ← h.look m]
    show (setM c.map (c.sto id).name none m).map (fun i => (c.sto i).b) = _
    rw [hnm]
    unfold setM
    by_cases e : m = n
    · simp [e]
    · simp [e]
  · have e : setM c.map (c.sto id).name none m = some i := e
    rw [hnm] at e
    unfold setM at e
    by_cases e1 : m = n
    · simp [e1] at e
    · simp only [e1, if_false] at e
      exact h.name m i e
  · show c.used - ((c.sto id).b.length : Int) = _
    have := used_three n l h.uniq
    rw [h.some_ hn] at this
    have t2 : ((some (c.sto id).b).getD []).length = (c.sto id).b.length := rfl
    rw [t2] at this
    rw [h.used]
    omega

/-- What is pending, the latest first: undone one after another it leaves what was there. -/
inductive Hist (was : List Fl) : Co → List Op → List Ac → Prop
  | nil {c : Co} : View c was → Hist was c [] []
  | snoc {c : Co} {j : List Op} {l : List Ac} {o : Op} {a : Ac} : View c (rep was (l.reverse ++ [a])) → Hist was (c.undo o 0) j l → o.kind = a.kind → (o.kind = 1 ∨ o.kind = 2 ∨ o.kind = 3) →
      (o.kind = 2 → o.at_ + o.old.length ≤ (c.sto o.on).b.length ∧ o.old.length = a.p.length) → (o.kind = 2 → ∀ m, View (c.undo o m) (does (rep was l.reverse) (cut a m))) → Hist was c (o :: j) (a :: l)
theorem Hist.view {was : List Fl} {c : Co} {j : List Op} {l : List Ac} (h : Hist was c j l) : View c (rep was l.reverse) := by
  cases h with
  | nil h => exact h
  | snoc h _ _ _ _ _ => rw [List.reverse_cons]; exact h
theorem Hist.len {was : List Fl} {c : Co} {j : List Op} {l : List Ac} (h : Hist was c j l) : j.length = l.length := by
  induction h with
  | nil _ => rfl
  | snoc _ _ _ _ _ _ ih => simp [ih]
def Live (I : Nat → Prop) (c : Co) (j : List Op) : Prop := (∀ n id, c.map n = some id → I id) ∧ ∀ o ∈ j, I o.on
theorem Live.undo {I : Nat → Prop} {c : Co} {o : Op} {j : List Op} (h : Live I c (o :: j)) (m : Int) : Live I (c.undo o m) j := by
  refine ⟨fun n id e => ?_, fun o' ho => h.2 o' (by simp [ho])⟩
  unfold Co.undo at e
  split at e
  · have e : setM c.map (c.sto o.on).name none n = some id := e
    unfold setM at e
    split at e
    · cases e
    · exact h.1 n id e
  · split at e
    · exact h.1 n id e
    · have e : setM c.map (c.sto o.on).name (some o.on) n = some id := e
      unfold setM at e
      split at e
      · obtain rfl := Option.some.inj e
        exact h.2 o (by simp)
      · exact h.1 n id e
/-- The stores may part outside of what lives. -/
theorem Co.undo_agree {I : Nat → Prop} {c : Co} {o : Op} {s : Nat → Fl} (ho : I o.on) (hs : ∀ id, I id → s id = c.sto id) (m : Int) :
    ∃ s', (Co.undo ⟨c.map, s, c.used⟩ o m) = ⟨(c.undo o m).map, s', (c.undo o m).used⟩ ∧ ∀ id, I id → s' id = (c.undo o m).sto id := by
  have e := hs o.on ho
  unfold Co.undo
  split
  · exact ⟨s, by simp only [Co.drop, e], hs⟩
  · split
    · refine ⟨setS s o.on ⟨(s o.on).name, upd (s o.on).b (o.at_ + stay o m) (o.old.drop (stay o m))⟩, rfl, fun id hid => ?_⟩
      show setS s o.on _ id = setS c.sto o.on _ id
      unfold setS
      by_cases e2 : id = o.on
      · rw [if_pos e2, if_pos e2, e]
      · rw [if_neg e2, if_neg e2, hs id hid]
    · exact ⟨s, by simp only [Co.put, e], hs⟩
theorem Hist.agree {was : List Fl} {I : Nat → Prop} {c : Co} {j : List Op} {l : List Ac} (h : Hist was c j l) (hL : Live I c j) : ∀ {s : Nat → Fl}, (∀ id, I id → s id = c.sto id) → Hist was ⟨c.map, s, c.used⟩ j l := by
  induction h with
  | nil h => intro s hs; exact .nil (h.agree hL.1 hs)
  | @snoc c j l o a h1 h2 h3 h4 h5 h6 ih =>
    intro s hs
    have ho := hL.2 o (by simp)
    obtain ⟨s', e', hs'⟩ := Co.undo_agree ho hs 0
    refine .snoc (h1.agree hL.1 hs) ?_ h3 h4 (fun hk => ?_) (fun hk m => ?_)
    · rw [e']
      exact ih (hL.undo 0) hs'
    · show o.at_ + o.old.length ≤ (s o.on).b.length ∧ _
      rw [hs o.on ho]
      exact h5 hk
    · obtain ⟨s2, e2, hs2⟩ := Co.undo_agree ho hs m
      rw [e2]
      exact (h6 hk m).agree (hL.undo m).1 hs2

theorem upd_back {b p : List UInt8} {o s : Nat} (h : o + p.length ≤ b.length) (hs : s ≤ p.length) : upd (upd b o p) (o + s) (((b.drop o).take p.length).drop s) = upd b o (p.take s) := by
  have hl : (upd b o p).length = b.length := upd_len h
  have hd : (((b.drop o).take p.length).drop s).length = p.length - s := by simp; omega
  apply List.ext_getElem?
  intro i
  unfold upd at *
  simp only [List.getElem?_append, List.length_append, List.length_take, List.length_drop, List.getElem?_take, List.getElem?_drop]
  rcases Nat.lt_or_ge i o with h1 | h1
  · simp (disch := omega) only [if_pos]
    repeat (first | rw [if_pos (by omega)] | rfl)
  · rcases Nat.lt_or_ge i (o + s) with h2 | h2
    · have e1 : i < min (o + s) (min o b.length + p.length + (b.length - (o + p.length))) := by omega
      repeat (first | rw [if_pos (by omega)] | rw [if_neg (by omega)] | rfl)
    · rcases Nat.lt_or_ge i (o + p.length) with h3 | h3
      · repeat (first | rw [if_pos (by omega)] | rw [if_neg (by omega)] | rfl | (congr 1; omega))
      · repeat (first | rw [if_pos (by omega)] | rw [if_neg (by omega)] | rfl | (congr 1; omega))
theorem upd_nil (b : List UInt8) (o : Nat) : upd b o [] = b := by unfold upd; simp
end Vp
end Go.Proofs.YtbhfapbhlkgmfaaDoor

namespace Go.Proofs.YtbhfapbhlkgmfaaDoor
namespace Vp
open Vf

theorem undo_one {c : Co} {o : Op} (h : o.kind = 1) (m : Int) : c.undo o m = c.drop o.on := by unfold Co.undo; rw [if_pos h]
theorem undo_two {c : Co} {o : Op} (h : o.kind = 2) (m : Int) : c.undo o m = c.over o.on (o.at_ + stay o m) (o.old.drop (stay o m)) := by
  unfold Co.undo
  rw [if_neg (by omega), if_pos h]
theorem undo_three {c : Co} {o : Op} (h : o.kind = 3) (m : Int) : c.undo o m = c.put o.on := by
  unfold Co.undo
  rw [if_neg (by omega), if_neg (by omega)]
theorem undo_other {c : Co} {o : Op} (h : o.kind ≠ 2) (m : Int) : c.undo o m = c.undo o 0 := by
  unfold Co.undo
  by_cases h1 : o.kind = 1
  · rw [if_pos h1, if_pos h1]
  · rw [if_neg h1, if_neg h1, if_neg h, if_neg h]

theorem Hist.create {was : List Fl} {I : Nat → Prop} {c : Co} {j : List Op} {l : List Ac} (h : Hist was c j l) (hL : Live I c j) {n b : List UInt8} {id : Nat} (hn : c.map n = none) (hid : ¬ I id) :
    Hist was ((c.lay id ⟨n, b⟩).put id) (⟨1, id, 0, []⟩ :: j) (⟨1, n, 0, b⟩ :: l) := by
  refine .snoc ?_ ?_ rfl (.inl rfl) (fun hk => absurd (show (1 : Int) = 2 from hk) (by decide)) (fun hk => absurd (show (1 : Int) = 2 from hk) (by decide))
  · rw [rep_append]
    exact h.view.make hn (fun m i e e2 => hid (e2 ▸ hL.1 m i e))
  · rw [undo_one rfl]
    have e : ((c.lay id ⟨n, b⟩).put id).drop id = ⟨c.map, setS c.sto id ⟨n, b⟩, c.used⟩ := by
      have e0 : (c.lay id ⟨n, b⟩).sto id = ⟨n, b⟩ := setS_same _ _ _
      have e1 : ((c.lay id ⟨n, b⟩).put id).sto id = ⟨n, b⟩ := e0
      unfold Co.drop
      rw [e1]
      have e2 : ((c.lay id ⟨n, b⟩).put id).map = setM c.map n (some id) := by show setM c.map ((c.lay id ⟨n, b⟩).sto id).name (some id) = _; rw [e0]
      have e3 : ((c.lay id ⟨n, b⟩).put id).used = c.used + (b.length : Int) := by show c.used + (((c.lay id ⟨n, b⟩).sto id).b.length : Int) = _; rw [e0]
      rw [e2, e3]
      have e4 : setM (setM c.map n (some id)) n none = c.map := setM_back _ _ _ _ hn
      show (⟨setM (setM c.map n (some id)) n none, _, _⟩ : Co) = _
      rw [e4]
      congr 1
      show c.used + (b.length : Int) - (b.length : Int) = _
      omega
    show Hist was (((c.lay id ⟨n, b⟩).put id).drop id) j l
    rw [e]
    refine h.agree hL (fun i hi => ?_)
    unfold setS
    rw [if_neg (show ¬ i = id from fun e2 => hid (e2 ▸ hi))]

theorem take_drop_len {b : List UInt8} {o n : Nat} (h : o + n ≤ b.length) : ((b.drop o).take n).length = n := by rw [List.length_take, List.length_drop]; omega
theorem over_over (c : Co) (id o : Nat) (b : List UInt8) (o2 : Nat) (b2 : List UInt8) : (c.over id o b).over id o2 b2 = c.lay id ⟨(c.sto id).name, upd (upd (c.sto id).b o b) o2 b2⟩ := by
  have h0 : (c.over id o b).sto id = ⟨(c.sto id).name, upd (c.sto id).b o b⟩ := setS_same _ _ _
  unfold Co.over at h0 ⊢
  rw [h0]
  unfold Co.lay
  simp only
  rw [setS_twice]
theorem lay_same (c : Co) (id : Nat) : c.lay id ⟨(c.sto id).name, (c.sto id).b⟩ = c := by
  unfold Co.lay
  have : setS c.sto id ⟨(c.sto id).name, (c.sto id).b⟩ = c.sto := by
    funext x
    unfold setS
    by_cases e : x = id
    · rw [if_pos e, e]
    · rw [if_neg e]
  rw [this]
theorem Hist.write {was : List Fl} {c : Co} {j : List Op} {l : List Ac} (h : Hist was c j l) {n b : List UInt8} {o id : Nat} (hn : c.map n = some id) (hf : o + b.length ≤ (c.sto id).b.length) :
    Hist was (c.over id o b) (⟨2, id, o, ((c.sto id).b.drop o).take b.length⟩ :: j) (⟨2, n, o, b⟩ :: l) := by
  have hlen := take_drop_len hf
  have h0 : (c.over id o b).sto id = ⟨(c.sto id).name, upd (c.sto id).b o b⟩ := setS_same _ _ _
  have key : ∀ m : Int, (c.over id o b).undo ⟨2, id, o, ((c.sto id).b.drop o).take b.length⟩ m = c.over id o (b.take (stay ⟨2, id, o, ((c.sto id).b.drop o).take b.length⟩ m)) := fun m => by
    rw [undo_two rfl]
    have hs : stay ⟨2, id, o, ((c.sto id).b.drop o).take b.length⟩ m ≤ b.length := by unfold stay; simp only [hlen]; omega
    show (c.over id o b).over id (o + _) ((((c.sto id).b.drop o).take b.length).drop _) = _
    rw [over_over, upd_back hf hs]
    rfl
  refine .snoc ?_ ?_ rfl (.inr (.inl rfl)) (fun _ => ⟨?_, hlen⟩) (fun _ m => ?_)
  · rw [rep_append]
    exact h.view.over hn hf
  · rw [key 0]
    have e : stay ⟨2, id, o, ((c.sto id).b.drop o).take b.length⟩ 0 = 0 := by unfold stay; omega
    rw [e, List.take_zero]
    have e2 : c.over id o [] = c := by unfold Co.over; rw [upd_nil, lay_same]
    rw [e2]
    exact h
  · show o + (((c.sto id).b.drop o).take b.length).length ≤ ((c.over id o b).sto id).b.length
    rw [h0, hlen]
    show _ ≤ (upd (c.sto id).b o b).length
    rw [upd_len hf]
    exact hf
  · rw [key m]
    have e : stay ⟨2, id, o, ((c.sto id).b.drop o).take b.length⟩ m = torn ⟨2, n, o, b⟩ m := by unfold stay torn; simp only [hlen]; omega
    rw [e]
    have hl : (b.take (torn ⟨2, n, o, b⟩ m)).length ≤ b.length := by rw [List.length_take]; omega
    exact h.view.over hn (by omega)

theorem Hist.remove {was : List Fl} {c : Co} {j : List Op} {l : List Ac} (h : Hist was c j l) {n : List UInt8} {id : Nat} (hn : c.map n = some id) :
    Hist was (c.drop id) (⟨3, id, 0, []⟩ :: j) (⟨3, n, 0, []⟩ :: l) := by
  refine .snoc ?_ ?_ rfl (.inr (.inr rfl)) (fun hk => absurd (show (3 : Int) = 2 from hk) (by decide)) (fun hk => absurd (show (3 : Int) = 2 from hk) (by decide))
  · rw [rep_append]
    exact h.view.drop hn 0 []
  · rw [undo_three rfl]
    have hnm := h.view.name n id hn
    have e : (c.drop id).put id = c := by
      unfold Co.put Co.drop
      simp only [hnm]
      rw [setM_back _ _ _ _ hn]
      have : c.used - ((c.sto id).b.length : Int) + ((c.sto id).b.length : Int) = c.used := by omega
      rw [this]
    show Hist was ((c.drop id).put id) j l
    rw [e]
    exact h

/-- On the way of a crash: either there is more to undo, or it is as the document says. -/
def Cr (S : Sv) (n m : Int) (c : Co) (j : List Op) : Prop := ∃ l, j.length = l.length ∧ l.reverse = S.l.take l.length ∧ (n.toNat < j.length → Hist S.was c j l) ∧ (j.length ≤ n.toNat → View c (crash S n m))
theorem Cr.start {S : Sv} {c : Co} {j : List Op} (h : Hist S.was c j S.l.reverse) (n m : Int) : Cr S n m c j := by
  have hl := h.len
  refine ⟨S.l.reverse, hl, ?_, fun _ => h, fun hn => ?_⟩
  · rw [List.reverse_reverse, List.length_reverse, List.take_length]
  · rw [crash_all (by rw [List.length_reverse] at hl; omega)]
    have := h.view
    rwa [List.reverse_reverse] at this
theorem Cr.step {S : Sv} {n m : Int} {c : Co} {o : Op} {j : List Op} (h : Cr S n m c (o :: j)) (hn : n.toNat < (o :: j).length) : Cr S n m (c.undo o (if j.length = n.toNat then m else 0)) j := by
  obtain ⟨l, h1, h2, h3, _⟩ := h
  have hh := h3 hn
  cases hh with
  | @snoc _ _ l' _ a g1 g2 g3 g4 g5 g6 =>
    rw [List.reverse_cons] at h2
    simp only [List.length_cons] at h1 h2 hn
    have hlS : l'.length + 1 ≤ S.l.length := by
      have := congrArg List.length h2
      rw [List.length_append, List.length_reverse, List.length_singleton, List.length_take] at this
      omega
    have hlt : l'.length < S.l.length := by omega
    rw [List.take_succ_eq_append_getElem hlt] at h2
    obtain ⟨e1, e2⟩ := List.append_inj h2 (by rw [List.length_reverse, List.length_take]; omega)
    have ea : a = S.l[l'.length] := by simpa using e2
    refine ⟨l', by omega, e1, fun hj => ?_, fun hj => ?_⟩
    · rw [if_neg (by omega)]
      exact g2
    · have hjn : j.length = n.toNat := by omega
      rw [if_pos hjn]
      have hk : n.toNat = l'.length := by omega
      by_cases hk2 : o.kind = 2
      · rw [crash_torn hk hlt (by rw [← ea, ← g3]; exact hk2)]
        have := g6 hk2 m
        rw [e1, ea] at this
        exact this
      · rw [crash_clean hk hlt (by rw [← ea, ← g3]; exact hk2), undo_other hk2, ← e1]
        exact g2.view
/-- What is undone next is fit for it. -/
theorem Cr.fit {S : Sv} {n m : Int} {c : Co} {o : Op} {j : List Op} (h : Cr S n m c (o :: j)) (hn : n.toNat < (o :: j).length) : (o.kind = 1 ∨ o.kind = 2 ∨ o.kind = 3) ∧ (o.kind = 2 → o.at_ + o.old.length ≤ (c.sto o.on).b.length) := by
  obtain ⟨l, h1, h2, h3, _⟩ := h
  have hh := h3 hn
  cases hh with
  | snoc g1 g2 g3 g4 g5 g6 => exact ⟨g4, fun hk => (g5 hk).1⟩
theorem Cr.done {S : Sv} {n m : Int} {c : Co} {j : List Op} (h : Cr S n m c j) (hn : j.length ≤ n.toNat) : View c (crash S n m) := by
  obtain ⟨l, _, _, _, h4⟩ := h
  exact h4 hn

/-! what is answered -/
theorem create_bad {S : Sv} {n b : List UInt8} (hi : is n = false) : Vf.create S n b = (S, 1) := by unfold Vf.create; rw [if_pos hi]
theorem create_has {S : Sv} {c : Co} {n b : List UInt8} {id : Nat} (hv : View c S.now) (hi : is n = true) (hn : c.map n = some id) : Vf.create S n b = (S, 6) := by
  have := (ix_some (hv.some_ hn)).1
  unfold Vf.create
  rw [if_neg (by simp [hi]), if_pos (by omega)]
theorem create_full {S : Sv} {c : Co} {n b : List UInt8} (hv : View c S.now) (hi : is n = true) (hn : c.map n = none) (hb : S.room - c.used < b.length) : Vf.create S n b = (S, 4) := by
  have := ix_none (hv.none_ hn)
  unfold Vf.create
  rw [if_neg (by simp [hi]), if_neg (by omega), if_pos (by rw [← hv.used]; exact hb)]
theorem create_ok {S : Sv} {c : Co} {n b : List UInt8} (hv : View c S.now) (hi : is n = true) (hn : c.map n = none) (hb : ¬ S.room - c.used < b.length) : Vf.create S n b = (S.act ⟨1, n, 0, b⟩, 0) := by
  have := ix_none (hv.none_ hn)
  unfold Vf.create
  rw [if_neg (by simp [hi]), if_neg (by omega), if_neg (by rw [← hv.used]; exact hb)]
theorem lenAt_some {l : List Fl} {n b : List UInt8} (h : look l n = some b) : lenAt l n = b.length := by
  have := (ix_some h).2
  unfold bytesAt at this
  unfold lenAt
  rw [this]
theorem write_bad {S : Sv} {n b : List UInt8} {t : Int} (hi : is n = false) : Vf.write S n t b = (S, 1) := by unfold Vf.write; rw [if_pos hi]
theorem write_none {S : Sv} {c : Co} {n b : List UInt8} {t : Int} (hv : View c S.now) (hi : is n = true) (hn : c.map n = none) : Vf.write S n t b = (S, 5) := by
  have := ix_none (hv.none_ hn)
  unfold Vf.write
  rw [if_neg (by simp [hi]), if_pos (by omega)]
theorem write_off {S : Sv} {c : Co} {n b : List UInt8} {t : Int} {id : Nat} (hv : View c S.now) (hi : is n = true) (hn : c.map n = some id) (hb : t < 0 ∨ ((c.sto id).b.length : Int) - t < b.length) : Vf.write S n t b = (S, 1) := by
  have h1 := (ix_some (hv.some_ hn)).1
  have h2 := lenAt_some (hv.some_ hn)
  unfold Vf.write
  rw [if_neg (by simp [hi]), if_neg h1, if_pos (by rw [h2]; omega)]
theorem write_ok {S : Sv} {c : Co} {n b : List UInt8} {t : Nat} {id : Nat} (hv : View c S.now) (hi : is n = true) (hn : c.map n = some id) (hb : t + b.length ≤ (c.sto id).b.length) : Vf.write S n (t : Int) b = (S.act ⟨2, n, t, b⟩, 0) := by
  have h1 := (ix_some (hv.some_ hn)).1
  have h2 := lenAt_some (hv.some_ hn)
  unfold Vf.write
  rw [if_neg (by simp [hi]), if_neg h1, if_neg (by rw [h2]; omega)]
  simp
theorem remove_bad {S : Sv} {n : List UInt8} (hi : is n = false) : Vf.remove S n = (S, 1) := by unfold Vf.remove; rw [if_pos hi]
theorem remove_none {S : Sv} {c : Co} {n : List UInt8} (hv : View c S.now) (hi : is n = true) (hn : c.map n = none) : Vf.remove S n = (S, 5) := by
  have := ix_none (hv.none_ hn)
  unfold Vf.remove
  rw [if_neg (by simp [hi]), if_pos (by omega)]
theorem remove_ok {S : Sv} {c : Co} {n : List UInt8} {id : Nat} (hv : View c S.now) (hi : is n = true) (hn : c.map n = some id) : Vf.remove S n = (S.act ⟨3, n, 0, []⟩, 0) := by
  have h1 := (ix_some (hv.some_ hn)).1
  unfold Vf.remove
  rw [if_neg (by simp [hi]), if_neg h1]
theorem read_bad {l : List Fl} {n : List UInt8} {t m : Int} (hi : is n = false) : Vf.read l n t m = ([], 1) := by unfold Vf.read; rw [if_pos hi]
theorem read_none {l : List Fl} {c : Co} {n : List UInt8} {t m : Int} (hv : View c l) (hi : is n = true) (hn : c.map n = none) : Vf.read l n t m = ([], 5) := by
  have := ix_none (hv.none_ hn)
  unfold Vf.read
  rw [if_neg (by simp [hi]), if_pos (by omega)]
theorem read_off {l : List Fl} {c : Co} {n : List UInt8} {t m : Int} {id : Nat} (hv : View c l) (hi : is n = true) (hn : c.map n = some id) (hb : t < 0 ∨ m < 0 ∨ ((c.sto id).b.length : Int) - t < m) : Vf.read l n t m = ([], 1) := by
  obtain ⟨h1, h2⟩ := ix_some (hv.some_ hn)
  unfold Vf.read
  rw [if_neg (by simp [hi]), if_neg h1, if_pos (by rw [h2]; omega)]
theorem read_ok {l : List Fl} {c : Co} {n : List UInt8} {t m : Nat} {id : Nat} (hv : View c l) (hi : is n = true) (hn : c.map n = some id) (hb : t + m ≤ (c.sto id).b.length) : Vf.read l n (t : Int) (m : Int) = ((((c.sto id).b).drop t).take m, 0) := by
  obtain ⟨h1, h2⟩ := ix_some (hv.some_ hn)
  unfold Vf.read
  rw [if_neg (by simp [hi]), if_neg h1, if_neg (by rw [h2]; omega), h2]
  simp
theorem size_bad {l : List Fl} {n : List UInt8} (hi : is n = false) : Vf.size l n = (0, 1) := by unfold Vf.size; rw [if_pos hi]
theorem size_none {l : List Fl} {c : Co} {n : List UInt8} (hv : View c l) (hi : is n = true) (hn : c.map n = none) : Vf.size l n = (0, 5) := by
  have := ix_none (hv.none_ hn)
  unfold Vf.size
  rw [if_neg (by simp [hi]), if_pos (by omega)]
theorem size_ok {l : List Fl} {c : Co} {n : List UInt8} {id : Nat} (hv : View c l) (hi : is n = true) (hn : c.map n = some id) : Vf.size l n = (((c.sto id).b.length : Int), 0) := by
  obtain ⟨h1, h2⟩ := ix_some (hv.some_ hn)
  unfold bytesAt at h2
  unfold Vf.size
  rw [if_neg (by simp [hi]), if_neg h1, h2]
end Vp
end Go.Proofs.YtbhfapbhlkgmfaaDoor
