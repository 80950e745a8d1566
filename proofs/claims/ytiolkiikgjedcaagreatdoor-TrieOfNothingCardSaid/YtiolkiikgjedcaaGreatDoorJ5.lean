/-
  MeApp: append onto a row of the call's own, out of whatever slice is read (nil, empty or not): as a law for the walk.
  TrMap: MEMORY: a map from texts to branches, nil or not, as laws for the walk: looked up, stored, struck, counted, ranged over.
-/
import Derived.Test.YtiolkiikgjedcaaGreatDoorJ4
import Derived.Tactics
import Derived.Test.YtiolkiikgjedcaaGreatDoorRows
import Derived.Test.YtiolkiikgjedcaaGreatDoorProg
import Derived.Maps.OwnSet
import Derived.Maps.OwnOps
import Derived.Maps.RangeWalk
import Derived.Laws.IdiomRangeMap
import Derived.Sort.KeysCollected
import Derived.RegionTactic

namespace Go.Proofs.YtiolkiikgjedcaaGreatDoor
open Go.RowKit
namespace Me
section
variable {P : Program} (w : World)

theorem run_app (base : Nat) (t ty e : TypeId) (i : TypeInfo) (z : Value) (size bytes : Nat) (ht : P.underlying t = some (.slice e)) (hi : P.info? e = some i) (hz : i.zero = some z)
    (hsize : i.size = size) (hby : i.bytes = bytes) (hzs : z.cells.size = size) (hsz : 0 < size)
    (v : Value) (n : Nat) (xs : List Value) (hown : w.ownsRow base e size v n xs)
    (G : Nat → Prop) (A : Option Addr) (m c : Nat) (news : List Value) (hl : news.length = m * size) (hr : Rd w G A news) (h1 : ∀ u ∈ news, u.oneCell' = true)
    (h63 : n + m ≤ maxLen) (hbytes : (n + m) * bytes ≤ 140737488355328) (hbase : base ≤ w.heap.size) :
    ∃ v' w', (Builtin.append_ #[t, t] ty #[v, .slice A m c]).run P w = .ok v' w' ∧ w'.ownsRow base e size v' (n + m) (xs ++ news) ∧ w.grownBy w' v.ownBlock ∧
      (v'.ownBlock = v.ownBlock ∨ v'.ownBlock = some w.heap.size) ∧ (v' = .slice none 0 0 → v = .slice none 0 0) := by
  by_cases hn : news = []
  · subst hn
    have hm : m = 0 := by
      rcases Nat.eq_zero_or_pos m with h | h
      · exact h
      · have := Nat.mul_pos h hsz; simp at hl; omega
    subst hm
    cases A with
    | none =>
      refine ⟨v, w, ?_, by simpa using hown, World.grownBy.refl w _, .inl rfl, id⟩
      rcases hown.2 with ⟨rfl, rfl⟩ | ⟨g, cap, cur, rfl, _, _, hnc, _⟩
      · simp [Builtin.append_, run_underlying ht, sizeOf, typeInfo, hi, Builtin.lenOf, Builtin.firstCells]
      · simp [Builtin.append_, run_underlying ht, sizeOf, typeInfo, hi, Builtin.lenOf, Builtin.firstCells, hnc, storeCells]
    | some ad =>
      obtain ⟨v', w', hrun, h2, h3, h4, h5⟩ := run_append_own_at (P := P) w base t ty e i z size bytes ht hi hz hsize hby hzs hsz v n xs hown ad 0 c [] (by simp) (fun j u hu => by simp at hu) (fun u hu => by cases hu) (by omega) (by simpa using hbytes) hbase
      exact ⟨v', w', hrun, h2, h3, h5, fun e => (h4.1 e).1⟩
  · obtain ⟨ad, rfl, _, _, hc⟩ := hr hn
    obtain ⟨v', w', hrun, h2, h3, h4, h5⟩ := run_append_own_at (P := P) w base t ty e i z size bytes ht hi hz hsize hby hzs hsz v n xs hown ad m c news hl hc h1 h63 hbytes hbase
    exact ⟨v', w', hrun, h2, h3, h5, fun e => (h4.1 e).1⟩

theorem wp_app {o : Oper} {a : Act} {K : Act → World → Prop} {Q : Exit → Act → World → Prop} (s x : Operand) (t : TypeId)
    (ho : o.op = .call { callee := .builtin .append, args := #[s, x], argTypes := #[t, t] })
    (base : Nat) (e : TypeId) (i : TypeInfo) (z : Value) (size bytes : Nat) (ht : P.underlying t = some (.slice e)) (hi : P.info? e = some i) (hz : i.zero = some z)
    (hsize : i.size = size) (hby : i.bytes = bytes) (hzs : z.cells.size = size) (hsz : 0 < size)
    (v : Value) (n : Nat) (xs : List Value) (hs : a.eval s = v) (hown : w.ownsRow base e size v n xs)
    (G : Nat → Prop) (A : Option Addr) (m c : Nat) (news : List Value) (hx : a.eval x = .slice A m c) (hl : news.length = m * size) (hr : Rd w G A news) (h1 : ∀ u ∈ news, u.oneCell' = true)
    (h63 : n + m ≤ maxLen) (hbytes : (n + m) * bytes ≤ 140737488355328) (hbase : base ≤ w.heap.size)
    (h : ∀ v' w', w'.ownsRow base e size v' (n + m) (xs ++ news) → w.grownBy w' v.ownBlock → (v'.ownBlock = v.ownBlock ∨ v'.ownBlock = some w.heap.size) → (v' = .slice none 0 0 → v = .slice none 0 0) → K (a.put o.dst v') w') : o.wp P a w K Q := by
  obtain ⟨v', w', hrun, h2, h3, h4, h5⟩ := run_app (P := P) w base t o.type e i z size bytes ht hi hz hsize hby hzs hsz v n xs hown G A m c news hl hr h1 h63 hbytes hbase
  unfold Oper.wp execOp
  simp only [ho, resolve, invoke, builtin, Sem.run_bind, Sem.run_pure, Result.andThen_ok, List.map_toArray, List.map_cons, List.map_nil, hs, hx, hrun]
  exact h v' w' h2 h3 h4 h5

theorem wpList_app {ops : Array Oper} {rest : List Oper} {o : Oper} {a : Act} {Q : Exit → Act → World → Prop} (hgd : o.guard = none) (s x : Operand) (t : TypeId)
    (ho : o.op = .call { callee := .builtin .append, args := #[s, x], argTypes := #[t, t] })
    (base : Nat) (e : TypeId) (i : TypeInfo) (z : Value) (size bytes : Nat) (ht : P.underlying t = some (.slice e)) (hi : P.info? e = some i) (hz : i.zero = some z)
    (hsize : i.size = size) (hby : i.bytes = bytes) (hzs : z.cells.size = size) (hsz : 0 < size)
    (v : Value) (n : Nat) (xs : List Value) (hs : a.eval s = v) (hown : w.ownsRow base e size v n xs)
    (G : Nat → Prop) (A : Option Addr) (m c : Nat) (news : List Value) (hx : a.eval x = .slice A m c) (hl : news.length = m * size) (hr : Rd w G A news) (h1 : ∀ u ∈ news, u.oneCell' = true)
    (h63 : n + m ≤ maxLen) (hbytes : (n + m) * bytes ≤ 140737488355328) (hbase : base ≤ w.heap.size)
    (h : ∀ v' w', w'.ownsRow base e size v' (n + m) (xs ++ news) → w.grownBy w' v.ownBlock → (v'.ownBlock = v.ownBlock ∨ v'.ownBlock = some w.heap.size) → (v' = .slice none 0 0 → v = .slice none 0 0) → wpList P ops Q rest (a.put o.dst v') w') : wpList P ops Q (o :: rest) a w :=
  wpList_plain hgd fun _ hK => wp_app w s x t ho base e i z size bytes ht hi hz hsize hby hzs hsz v n xs hs hown G A m c news hx hl hr h1 h63 hbytes hbase fun v' w' h2 h3 h4 h5 => hK _ _ (h v' w' h2 h3 h4 h5)

/-- The same in a region that draws its order. -/
theorem step_app {ops : Array Oper} {o : Oper} {a : Act} {K : Act → World → Prop} {Q : Exit → Act → World → Prop} {E : Prop} (hgd : o.guard = none) (s x : Operand) (t : TypeId)
    (ho : o.op = .call { callee := .builtin .append, args := #[s, x], argTypes := #[t, t] })
    (base : Nat) (e : TypeId) (i : TypeInfo) (z : Value) (size bytes : Nat) (ht : P.underlying t = some (.slice e)) (hi : P.info? e = some i) (hz : i.zero = some z)
    (hsize : i.size = size) (hby : i.bytes = bytes) (hzs : z.cells.size = size) (hsz : 0 < size)
    (v : Value) (n : Nat) (xs : List Value) (hs : a.eval s = v) (hown : w.ownsRow base e size v n xs)
    (G : Nat → Prop) (A : Option Addr) (m c : Nat) (news : List Value) (hx : a.eval x = .slice A m c) (hl : news.length = m * size) (hr : Rd w G A news) (h1 : ∀ u ∈ news, u.oneCell' = true)
    (h63 : n + m ≤ maxLen) (hbytes : (n + m) * bytes ≤ 140737488355328) (hbase : base ≤ w.heap.size)
    (h : ∀ v' w', w'.ownsRow base e size v' (n + m) (xs ++ news) → w.grownBy w' v.ownBlock → (v'.ownBlock = v.ownBlock ∨ v'.ownBlock = some w.heap.size) → (v' = .slice none 0 0 → v = .slice none 0 0) → K (a.put o.dst v') w') :
    if Region.wanted o (yielded ops a.tmps) = true then Oper.wp P o a w K Q else E := by
  have hw : Region.wanted o (yielded ops a.tmps) = true := by simp [Region.wanted, hgd]
  rw [if_pos hw]
  exact wp_app w s x t ho base e i z size bytes ht hi hz hsize hby hzs hsz v n xs hs hown G A m c news hx hl hr h1 h63 hbytes hbase h
end

theorem owns_keep {w w' : World} {base : Nat} {e : TypeId} {size n : Nat} {v : Value} {xs : List Value} (h : w.ownsRow base e size v n xs) (hk : ∀ g, v.ownBlock = some g → w'.heap[g]? = w.heap[g]?) : w'.ownsRow base e size v n xs := by
  refine ⟨h.1, ?_⟩
  rcases h.2 with hn | ⟨g, cap, cur, rfl, hb, hg, rest⟩
  · exact .inl hn
  · exact .inr ⟨g, cap, cur, rfl, hb, (hk g rfl).trans hg, rest⟩
/-- A block that was just laid reads as its cells. -/
theorem Rd.fresh (W : World) (cs : List Value) (t : TypeId) (n : Nat) (hn : n = W.heap.size) : Rd (W.alloc (.cells cs.toArray t)) (fun b => b = n) (some ⟨n, 0, none⟩) cs := fun _ => by
  subst hn
  refine ⟨_, rfl, by simp, rfl, fun j u hu => ?_⟩
  rw [Addr.add_lit, Nat.zero_add, World.cell?_alloc_new]
  simpa using hu
/-- A slice of one's own, as bytes. -/
theorem Bs.own {w : World} {base : Nat} {e : TypeId} {v : Value} {l : List UInt8} (h : w.ownsRow base e 1 v l.length (by8 l)) : Bs w (fun i => base ≤ i) v l := by
  rcases h.2 with ⟨hv, h0⟩ | ⟨g, cap, cur, hv, hb, hg, hnc, hcm, hcs, ht⟩
  · have hz : l = [] := List.eq_nil_of_length_eq_zero h0
    subst hz
    exact ⟨none, 0, hv, Nat.le_refl _, Nat.zero_le _, Rd.none_ _ _ _⟩
  · refine ⟨some ⟨g, 0, none⟩, cap, hv, hnc, hcm, ?_⟩
    rw [hv] at h
    refine (Rd.own h).mono fun i _ hi => ?_
    have : g = i := by simpa [Value.ownBlock] using hi
    omega
end Me
theorem own_slice {base : Nat} {w : World} {v : Value} {e : TypeId} {s n : Nat} {xs : List Value} (h : w.ownsRow base e s v n xs) : ∃ A n c, v = .slice A n c := by
  rcases h.2 with ⟨rfl, _⟩ | ⟨g', cap, cur, rfl, _⟩
  · exact ⟨_, _, _, rfl⟩
  · exact ⟨_, _, _, rfl⟩
theorem lowBox' {w W : World} {o : Obj} (h : Below (w.heap.size + 1) (w.alloc o) W) : Below w.heap.size w W := ((Below.refl _ _).alloc (Nat.le_refl _) _).trans (h.mono (Nat.le_succ _))
end Go.Proofs.YtiolkiikgjedcaaGreatDoor

namespace Go.Proofs.YtiolkiikgjedcaaGreatDoor
open Go.RowKit
open Me
namespace Tr

def setM (m : List UInt8 → Option Nat) (n : List UInt8) (v : Option Nat) : List UInt8 → Option Nat := fun x => if x = n then v else m x
/-- How a pointer to a block's head reads. -/
def ptrR : Value → Option (DataW Unit × List MemPlace)
  | .pointer none => some (.nil, [])
  | .pointer (some ⟨b, 0, none⟩) => some (.lit (.int .i64 (b : Int)), [])
  | _ => none
def enc : Option Nat → DataW Unit
  | none => .nil
  | some b => .lit (.int .i64 (b : Int))
def ptr : Option Nat → Value
  | none => .pointer none
  | some b => .pointer (some ⟨b, 0, none⟩)
theorem ptr_of {v : Value} {y : DataW Unit × List MemPlace} (h : ptrR v = some y) : ∃ c, v = ptr c ∧ y = (enc c, []) := by
  unfold ptrR at h
  split at h
  · exact ⟨none, rfl, (Option.some.inj h).symm⟩
  · rename_i b
    exact ⟨some b, rfl, (Option.some.inj h).symm⟩
  · cases h
theorem enc_inj {a b : Option Nat} (h : enc a = enc b) : a = b := by
  cases a <;> cases b <;> simp [enc] at h ⊢
  exact_mod_cast h
theorem ptrR_inv {v : Value} {m : Option Nat} {ps : List MemPlace} (h : ptrR v = some (enc m, ps)) : v = ptr m := by
  obtain ⟨c, rfl, e⟩ := ptr_of h
  rw [enc_inj (congrArg Prod.fst e)]
/-- A map's datum that says this. -/
structure Says (D : DataW Unit) (m : List UInt8 → Option Nat) : Prop where
  at_ : ∀ n, D.atKey (.string n) .nil = enc (m n)
  has : ∀ n, Maps.has D (.string n) = (m n).isSome
/-- A map, nil or not, from texts to pointers. -/
def Mp (w : World) (mb : Option Nat) (k : Nat) (m : List UInt8 → Option Nat) : Prop :=
  (mb = none ∧ ∀ n, m n = none) ∨ ∃ b D, mb = some b ∧ w.ownsMap Tryz.prog 9 ptrR b k D ∧ Says D m
theorem keyS : Maps.Keyed Tryz.prog 9 := Maps.string_keyed Tryz.underlying9
theorem keyN (n : List UInt8) (h : n.length ≤ 1048576) : keyOf Tryz.prog 9 (.string ⟨n.toArray⟩) = some (.string n) := by
  have := Go.WideMaps.keyOf_string_mk (P := Tryz.prog) (k := 9) Tryz.underlying9 (s := ⟨n.toArray⟩) (by show n.toArray.size ≤ _; unfold maxLen; simp; omega)
  simpa using this
theorem zeroP (w : World) : (zeroValue 54).run Tryz.prog w = .ok (.pointer none) w := by kernel_rfl
theorem Mp.look {w : World} {mb : Option Nat} {k : Nat} {m : List UInt8 → Option Nat} (h : Mp w mb k m) {n : List UInt8} (hn : n.length ≤ 1048576) :
    (Instr.lookup 49 (.map mb) (.string ⟨n.toArray⟩) false).run Tryz.prog w = .ok (ptr (m n)) w := by
  rcases h with ⟨rfl, h⟩ | ⟨b, D, rfl, hown, hs⟩
  · have := Maps.look_nil (P := Tryz.prog) (w := w) (t := 49) false keyS Tryz.underlying49 (zeroP w) (keyN n hn)
    rw [h n]
    exact this
  · obtain ⟨v, ps, hrun, hv⟩ := hown.lookup (t := 49) keyS Tryz.underlying49 (zeroP w) (zd := .nil) (zp := []) rfl (keyN n hn)
    rw [hs.at_ n] at hv
    rw [hrun, ptrR_inv hv]
theorem Mp.keep {w w' : World} {mb : Option Nat} {k : Nat} {m : List UInt8 → Option Nat} (h : Mp w mb k m) (hk : ∀ b, mb = some b → w'.heap[b]? = w.heap[b]?) : Mp w' mb k m := by
  rcases h with h | ⟨b, D, hmb, hown, hs⟩
  · exact .inl h
  · obtain ⟨es, clock, hb, rest⟩ := hown
    exact .inr ⟨b, D, hmb, ⟨es, clock, (hk b hmb).trans hb, rest⟩, hs⟩
theorem Mp.mono {w : World} {mb : Option Nat} {k k' : Nat} {m : List UInt8 → Option Nat} (h : Mp w mb k m) (hk : k ≤ k') : Mp w mb k' m := by
  rcases h with h | ⟨b, D, hmb, hown, hs⟩
  · exact .inl h
  · exact .inr ⟨b, D, hmb, hown.mono hk, hs⟩
theorem Mp.congr {w : World} {mb : Option Nat} {k : Nat} {m m' : List UInt8 → Option Nat} (h : Mp w mb k m) (hm : ∀ n, m n = m' n) : Mp w mb k m' := by
  obtain rfl : m = m' := funext hm
  exact h
theorem Mp.lt {w : World} {mb : Option Nat} {k : Nat} {m : List UInt8 → Option Nat} (h : Mp w mb k m) {b : Nat} (hb : mb = some b) : b < w.heap.size ∧ ∃ es clock, w.heap[b]? = some (.map es clock) := by
  rcases h with ⟨h, _⟩ | ⟨b', D, hmb, hown, hs⟩
  · rw [h] at hb; cases hb
  · rw [hmb] at hb
    obtain rfl := Option.some.inj hb
    obtain ⟨es, clock, hh, _⟩ := id hown
    exact ⟨hown.lt, es, clock, hh⟩
theorem Mp.made (w : World) : Mp (w.alloc (.map #[] 0)) (some w.heap.size) 0 (fun _ => none) :=
  .inr ⟨_, _, rfl, World.ownsMap_made w _ _ _, fun _ => rfl, fun _ => rfl⟩
/-- Behind a store. -/
theorem Says.put {D : DataW Unit} {m : List UInt8 → Option Nat} (h : Says D m) (hD : Maps.IsMap D) (n : List UInt8) (id : Nat) : Says (D.put (.string n) (enc (some id))) (setM m n (some id)) := by
  refine ⟨fun x => ?_, fun x => ?_⟩
  · unfold setM
    by_cases e : x = n
    · subst e
      rw [if_pos rfl, Maps.atKey_put_same hD (show WideAt.IsKeyLit (.string x) from trivial)]
    · rw [if_neg e, Maps.atKey_put_other (show Lit.string x ≠ Lit.string n by simpa using e), h.at_ x]
  · unfold setM
    by_cases e : x = n
    · subst e
      rw [if_pos rfl, Maps.has_put_same hD (show WideAt.IsKeyLit (.string x) from trivial)]
      rfl
    · rw [if_neg e, Maps.has_put_other (show Lit.string x ≠ Lit.string n by simpa using e), h.has x]
/-- Behind a delete. -/
theorem Says.struck {D : DataW Unit} {m : List UInt8 → Option Nat} (h : Says D m) (n : List UInt8) : Says (D.del (.string n)) (setM m n none) := by
  refine ⟨fun x => ?_, fun x => ?_⟩
  · unfold setM
    by_cases e : x = n
    · subst e
      rw [if_pos rfl, Maps.atKey_del_same]
      rfl
    · rw [if_neg e, Maps.atKey_del_other (show Lit.string x ≠ Lit.string n by simpa using e), h.at_ x]
  · unfold setM
    by_cases e : x = n
    · subst e
      rw [if_pos rfl, Maps.has_del_same]
      rfl
    · rw [if_neg e, Maps.has_del_other (show Lit.string x ≠ Lit.string n by simpa using e), h.has x]
/-- A store, as a run. -/
theorem Mp.store {w : World} {b k : Nat} {m : List UInt8 → Option Nat} (h : Mp w (some b) k m) (hk : k < maxLen) {n : List UInt8} (hn : n.length ≤ 1048576) (id : Nat) :
    ∃ w', (Instr.mapUpdate 49 (.map (some b)) (.string ⟨n.toArray⟩) (.pointer (some ⟨id, 0, none⟩))).run Tryz.prog w = .ok () w' ∧ Mp w' (some b) (k + 1) (setM m n (some id)) ∧ w.mapTurned w' b := by
  rcases h with ⟨h, _⟩ | ⟨b', D, hmb, hown, hs⟩
  · cases h
  · obtain rfl := Option.some.inj hmb
    obtain ⟨w', hrun, h1, h2⟩ := hown.store (t := 49) keyS Tryz.underlying49 hk (keyN n hn) (show ptrR (.pointer (some ⟨id, 0, none⟩)) = some (enc (some id), []) from rfl)
    exact ⟨w', hrun, .inr ⟨b, _, rfl, h1, hs.put hown.isMap n id⟩, h2⟩
theorem Mp.drop {w : World} {b k : Nat} {m : List UInt8 → Option Nat} (h : Mp w (some b) k m) {n : List UInt8} (hn : n.length ≤ 1048576) (ty : TypeId) :
    ∃ w', (Builtin.delete_ #[49, 9] ty #[.map (some b), .string ⟨n.toArray⟩]).run Tryz.prog w = .ok (.tuple #[]) w' ∧ Mp w' (some b) k (setM m n none) ∧ w.mapTurned w' b := by
  rcases h with ⟨h, _⟩ | ⟨b', D, hmb, hown, hs⟩
  · cases h
  · obtain rfl := Option.some.inj hmb
    obtain ⟨w', hrun, h1, h2⟩ := hown.drop (t := 49) keyS Tryz.underlying49 (keyN n hn) ty
    exact ⟨w', hrun, .inr ⟨b, _, rfl, h1, hs.struck n⟩, h2⟩
/-- How many keys: none just if there is none. -/
theorem Mp.len {w : World} {mb : Option Nat} {k : Nat} {m : List UInt8 → Option Nat} (h : Mp w mb k m) :
    ∃ s : Nat, s ≤ k ∧ (∀ ty, (Builtin.len_ #[49] ty #[.map mb]).run Tryz.prog w = .ok (.int .i64 s) w) ∧ (s = 0 ↔ ∀ n, m n = none) := by
  rcases h with ⟨rfl, h⟩ | ⟨b, D, rfl, hown, hs⟩
  · exact ⟨0, Nat.zero_le _, fun ty => Maps.len_nil Tryz.underlying49 ty, fun _ => h, fun _ => rfl⟩
  · refine ⟨Maps.size D, hown.size_le, fun ty => hown.len Tryz.underlying49 ty, fun h0 n => ?_, fun h0 => ?_⟩
    · obtain ⟨es, rfl, _⟩ := hown.keysOf
      have : es = [] := List.eq_nil_of_length_eq_zero h0
      subst this
      have := hs.has n
      cases e : m n with
      | none => rfl
      | some c => rw [e] at this; cases this
    · obtain ⟨es, rfl, hk⟩ := hown.keysOf
      cases es with
      | nil => rfl
      | cons p r =>
        obtain ⟨v, hv⟩ := hk p (List.mem_cons_self ..)
        obtain ⟨x, _, hx, _⟩ := Maps.keyOf_str Tryz.underlying9 hv
        have := hs.has x
        rw [h0 x, Maps.has_eq, List.any_cons, hx] at this
        simp [Lit.sameKey] at this
/-- Being ranged over. -/
def Rgs (w : World) (mb : Option Nat) (r k : Nat) (m : List UInt8 → Option Nat) (left : List UInt8 → Bool) (cnt : Nat) : Prop :=
  (mb = none ∧ (∀ n, m n = none) ∧ (∀ n, left n = false) ∧ ∃ x y z, w.heap[r]? = some (.mapIter none x y z)) ∨
  ∃ b D lf, mb = some b ∧ Says D m ∧ w.ranges Tryz.prog 9 ptrR b r k D lf cnt ∧ ∀ n, left n = lf (.string n)
/-- How many are still to come. -/
def rgLeft (w : World) (mb : Option Nat) (r : Nat) : Nat := match mb with
  | none => 0
  | some b => w.rangeLeft b r
theorem Rgs.left_eq {w : World} {b r k : Nat} {m : List UInt8 → Option Nat} {left : List UInt8 → Bool} {cnt : Nat} (h : Rgs w (some b) r k m left cnt) : rgLeft w (some b) r = cnt := by
  rcases h with ⟨h, _⟩ | ⟨b', D, lf, hmb, hs, hr, hl⟩
  · cases h
  · obtain rfl := Option.some.inj hmb
    exact hr.left_eq
theorem Rgs.kept {w w' : World} {mb : Option Nat} {r k : Nat} {m : List UInt8 → Option Nat} {left : List UInt8 → Bool} {cnt : Nat} (h : Rgs w mb r k m left cnt) (h1 : w'.heap[r]? = w.heap[r]?) (h2 : ∀ b, mb = some b → w'.heap[b]? = w.heap[b]?) : Rgs w' mb r k m left cnt := by
  rcases h with ⟨h, hm, hl, x, y, z, hb⟩ | ⟨b, D, lf, hmb, hs, hr, hl⟩
  · exact .inl ⟨h, hm, hl, x, y, z, h1.trans hb⟩
  · obtain ⟨es, clock, since, seen, c0, hb, F, hes, hD, hri, rest⟩ := hr
    exact .inr ⟨b, D, lf, hmb, hs, ⟨es, clock, since, seen, c0, (h2 b hmb).trans hb, F, hes, hD, h1.trans hri, rest⟩, hl⟩
theorem Rgs.lt {w : World} {mb : Option Nat} {r k : Nat} {m : List UInt8 → Option Nat} {left : List UInt8 → Bool} {cnt : Nat} (h : Rgs w mb r k m left cnt) : r < w.heap.size ∧ ∃ x y z u, w.heap[r]? = some (.mapIter x y z u) := by
  rcases h with ⟨_, _, _, x, y, z, hb⟩ | ⟨b, D, lf, hmb, hs, hr, hl⟩
  · exact ⟨(Array.getElem?_eq_some_iff.1 hb).1, _, _, _, _, hb⟩
  · obtain ⟨es, clock, since, seen, c0, hb, F, hes, hD, hri, rest⟩ := hr
    exact ⟨(Array.getElem?_eq_some_iff.1 hri).1, _, _, _, _, hri⟩
theorem Rgs.mp {w : World} {mb : Option Nat} {r k : Nat} {m : List UInt8 → Option Nat} {left : List UInt8 → Bool} {cnt : Nat} (h : Rgs w mb r k m left cnt) : Mp w mb k m := by
  rcases h with ⟨h, hm, _⟩ | ⟨b, D, lf, hmb, hs, hr, hl⟩
  · exact .inl ⟨h, hm⟩
  · exact .inr ⟨b, D, hmb, hr.owns, hs⟩
theorem Mp.range {w : World} {mb : Option Nat} {k : Nat} {m : List UInt8 → Option Nat} (h : Mp w mb k m) :
    ∃ w' cnt, (Instr.range 49 (.map mb)).run Tryz.prog w = .ok (.pointer (some ⟨w.heap.size, 0, none⟩)) w' ∧ Rgs w' mb w.heap.size k m (fun n => (m n).isSome) cnt ∧ w.grownBy w' none ∧ w'.heap.size = w.heap.size + 1 := by
  rcases h with ⟨rfl, h⟩ | ⟨b, D, rfl, hown, hs⟩
  · exact ⟨_, 0, run_range_nilMap (P := Tryz.prog) w 49 9 54 Tryz.underlying49, .inl ⟨rfl, h, fun n => by show (m n).isSome = false; rw [h n]; rfl, _, _, _, heap_alloc_new w _⟩, World.grownBy_alloc w _ none, by simp⟩
  · obtain ⟨w', hrun, h1, h2, h3⟩ := hown.range keyS (t := 49) Tryz.underlying49
    exact ⟨w', _, hrun, .inr ⟨b, D, _, rfl, hs, h1, fun n => (hs.has n).symm⟩, h2, h3⟩
theorem Rgs.next {w : World} {mb : Option Nat} {r k : Nat} {m : List UInt8 → Option Nat} {left : List UInt8 → Bool} {cnt : Nat} (h : Rgs w mb r k m left cnt) (ty : TypeId) :
    ((∀ n, left n = false) ∧ (Instr.next (.pointer (some ⟨r, 0, none⟩)) false ty).run Tryz.prog w = .ok (.tuple #[.bool false]) w) ∨
    ∃ x c w' cnt', left x = true ∧ m x = some c ∧ (Instr.next (.pointer (some ⟨r, 0, none⟩)) false ty).run Tryz.prog w = .ok (.tuple #[.bool true, .string ⟨x.toArray⟩, .pointer (some ⟨c, 0, none⟩)]) w' ∧
      Rgs w' mb r k m (fun n => left n && decide (n ≠ x)) cnt' ∧ rgLeft w' mb r < rgLeft w mb r ∧ w.grownBy w' (some r) ∧ w'.heap.size = w.heap.size ∧
      (Instr.entry (.pointer (some ⟨r, 0, none⟩))).run Tryz.prog w' = .ok (.tuple #[.string ⟨x.toArray⟩, .pointer (some ⟨c, 0, none⟩)]) w' := by
  rcases h with ⟨h, hm, hl, x, y, z, hb⟩ | ⟨b, D, lf, rfl, hs, hr, hl⟩
  · refine .inl ⟨hl, ?_⟩
    simp only [Instr.next, getObj, Sem.run_bind, Sem.run, hb, Result.andThen]
    rfl
  · rcases hr.next keyS ty with ⟨h0, hl0, hrun⟩ | ⟨key, v, kl, y, w', cnt', hkey, hlk, hv, hat, hrun, hrg, hlt, hgr, hsz, hen⟩
    · exact .inl ⟨fun n => by rw [hl n]; exact hl0 _, hrun⟩
    · obtain ⟨x, ex, rfl, _⟩ := Maps.keyOf_str Tryz.underlying9 hkey
      obtain ⟨c, rfl, hy⟩ := ptr_of hv
      have e1 : enc (m x) = enc c := by rw [← hs.at_ x, hat .nil, hy]
      have e2 : m x = c := enc_inj e1
      have e3 := hs.has x
      rw [Maps.has_true_of_atKey hat] at e3
      cases c with
      | none => rw [e2] at e3; cases e3
      | some c =>
        subst ex
        refine .inr ⟨x, c, w', cnt', by rw [hl x]; exact hlk, e2, hrun, .inr ⟨b, D, _, rfl, hs, hrg, fun n => ?_⟩, ?_, hgr, hsz, hen⟩
        · have e3 : (!(Lit.string n).sameKey (.string x)) = decide (n ≠ x) := by
            by_cases e : n = x
            · subst e; simp [Lit.sameKey]
            · simp [Lit.sameKey, e]
          show (left n && decide (n ≠ x)) = (lf (.string n) && !(Lit.string n).sameKey (.string x))
          rw [hl n, e3]
        · show w'.rangeLeft b r < w.rangeLeft b r
          rw [hrg.left_eq, hr.left_eq]; exact hlt
end Tr

section
variable {w : World} {ops : Array Oper} {rest : List Oper} {o : Oper} {a : Act} {Q : Exit → Act → World → Prop}
theorem wpList_range_mp (hg : o.guard = none) (m : Operand) (hop : o.op = Op.range 49 m) (mb : Option Nat) (k : Nat) (mf : List UInt8 → Option Nat) (hm : a.eval m = .map mb) (h : Tr.Mp w mb k mf)
    (hK : ∀ w' cnt, Tr.Rgs w' mb w.heap.size k mf (fun n => (mf n).isSome) cnt → w.grownBy w' none → w'.heap.size = w.heap.size + 1 → wpList Tryz.prog ops Q rest (a.put o.dst (.pointer (some ⟨w.heap.size, 0, none⟩))) w') : wpList Tryz.prog ops Q (o :: rest) a w := by
  refine wpList_plain hg fun K' hK' => ?_
  obtain ⟨w', cnt, hrun, r1, r2, r3⟩ := h.range
  unfold Oper.wp
  simp [execOp, hop, hm, hrun, Result.andThen]
  exact hK' _ _ (hK w' cnt r1 r2 r3)
theorem wpList_next_mp (hg : o.guard = none) (it : Operand) (hop : o.op = Op.next it false) (mb : Option Nat) (r k : Nat) (mf : List UInt8 → Option Nat) (left : List UInt8 → Bool) (cnt : Nat) (hit : a.eval it = .pointer (some ⟨r, 0, none⟩)) (h : Tr.Rgs w mb r k mf left cnt)
    (hDone : (∀ n, left n = false) → wpList Tryz.prog ops Q rest (a.put o.dst (.tuple #[.bool false])) w)
    (hMore : ∀ x c w' cnt', left x = true → mf x = some c → Tr.Rgs w' mb r k mf (fun n => left n && decide (n ≠ x)) cnt' → Tr.rgLeft w' mb r < Tr.rgLeft w mb r → w.grownBy w' (some r) → w'.heap.size = w.heap.size →
      (Instr.entry (.pointer (some ⟨r, 0, none⟩))).run Tryz.prog w' = .ok (.tuple #[.string ⟨x.toArray⟩, .pointer (some ⟨c, 0, none⟩)]) w' → wpList Tryz.prog ops Q rest (a.put o.dst (.tuple #[.bool true, .string ⟨x.toArray⟩, .pointer (some ⟨c, 0, none⟩)])) w') :
    wpList Tryz.prog ops Q (o :: rest) a w := by
  refine wpList_plain hg fun K' hK' => ?_
  unfold Oper.wp
  rcases h.next o.type with ⟨hl, hrun⟩ | ⟨x, c, w', cnt', hlx, hmx, hrun, hrg, hlt, hgr, hsz, hen⟩
  · simp [execOp, hop, hit, hrun, Result.andThen]
    exact hK' _ _ (hDone hl)
  · simp [execOp, hop, hit, hrun, Result.andThen]
    exact hK' _ _ (hMore x c w' cnt' hlx hmx hrg hlt hgr hsz hen)
end
end Go.Proofs.YtiolkiikgjedcaaGreatDoor
