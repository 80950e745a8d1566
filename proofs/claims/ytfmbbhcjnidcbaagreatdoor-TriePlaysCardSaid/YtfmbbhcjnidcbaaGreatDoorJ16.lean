/-
  TrMem: MEMORY: a tree of branches: each node a block of two cells and a map's; what stands when it grows or shrinks.
  TrReach: CONTRACTS: package trie: reach: the branch to which parts lead.
  TrGrow: CONTRACTS: package trie: grow: the branch to which parts lead, made where it lacks.
-/
import Derived.Test.YtfmbbhcjnidcbaaGreatDoorJ15
import Derived.Deep.RegionLaw
import Derived.Lib.QuietBelow
import Derived.WalkSpells

namespace Go.Proofs.YtfmbbhcjnidcbaaGreatDoor
open Go.RowKit
open Me
namespace Tr

/-- A node's block: the root's has a kind and a second cell of its own. -/
def nodeC (T0 : TypeId) (x0 : Value) (q : Path) (n : Nd) : Obj := match q with
  | [] => .cells #[.map n.mb, x0] T0 (0, 0)
  | _ :: _ => .cells #[.map n.mb, .bool n.lf] 55 (0, 0)
structure Tree (w : World) (T0 : TypeId) (x0 : Value) (c : Nat) (F : Ns) : Prop where
  root : F [] ≠ none
  closed : Closed F
  node : ∀ q n, F q = some n → w.heap[n.b]? = some (nodeC T0 x0 q n)
  map : ∀ q n, F q = some n → Mp w n.mb c (fun k => (F (q ++ [k])).map (·.b))
  inj : ∀ q q' n n', F q = some n → F q' = some n' → n.b = n'.b → q = q'
  injm : ∀ q q' n n' m, F q = some n → F q' = some n' → n.mb = some m → n'.mb = some m → q = q'
  key : ∀ q k, F (q ++ [k]) ≠ none → k.length ≤ 1048576
/-- Its blocks. -/
def own (F : Ns) (i : Nat) : Prop := ∃ q n, F q = some n ∧ (i = n.b ∨ n.mb = some i)
theorem Tree.keep {w w' : World} {T0 : TypeId} {x0 : Value} {c : Nat} {F : Ns} (h : Tree w T0 x0 c F) (hk : ∀ i, own F i → w'.heap[i]? = w.heap[i]?) : Tree w' T0 x0 c F :=
  { h with
    node := fun q n hn => (hk _ ⟨q, n, hn, .inl rfl⟩).trans (h.node q n hn)
    map := fun q n hn => (h.map q n hn).keep fun _ hb => hk _ ⟨q, n, hn, .inr hb⟩ }
theorem Tree.mono {w : World} {T0 : TypeId} {x0 : Value} {c c' : Nat} {F : Ns} (h : Tree w T0 x0 c F) (hc : c ≤ c') : Tree w T0 x0 c' F := { h with map := fun q n hn => (h.map q n hn).mono hc }
theorem nodeC_cells (T0 : TypeId) (x0 : Value) (q : Path) (n : Nd) : ∃ v t, nodeC T0 x0 q n = .cells #[.map n.mb, v] t (0, 0) := by
  cases q with
  | nil => exact ⟨_, _, rfl⟩
  | cons a r => exact ⟨_, _, rfl⟩
theorem nodeC_child (T0 : TypeId) (x0 : Value) (q : Path) (k : List UInt8) (n : Nd) : nodeC T0 x0 (q ++ [k]) n = .cells #[.map n.mb, .bool n.lf] 55 (0, 0) := by
  cases q <;> rfl
theorem nodeC_ne {T0 : TypeId} {x0 : Value} {q : Path} (hq : q ≠ []) (n : Nd) : nodeC T0 x0 q n = .cells #[.map n.mb, .bool n.lf] 55 (0, 0) := by
  cases q with
  | nil => exact absurd rfl hq
  | cons a r => rfl
theorem Tree.lt {w : World} {T0 : TypeId} {x0 : Value} {c : Nat} {F : Ns} (h : Tree w T0 x0 c F) {i : Nat} (hi : own F i) : i < w.heap.size := by
  obtain ⟨q, n, hn, hi⟩ := hi
  rcases hi with rfl | hm
  · exact (Array.getElem?_eq_some_iff.1 (h.node q n hn)).1
  · exact ((h.map q n hn).lt hm).1
theorem Tree.below {w w' : World} {T0 : TypeId} {x0 : Value} {c : Nat} {F : Ns} (h : Tree w T0 x0 c F) (hb : Below w.heap.size w w') : Tree w' T0 x0 c F := h.keep fun i hi => hb.block i (h.lt hi)
/-- A node's first cell. -/
theorem Tree.cell {w : World} {T0 : TypeId} {x0 : Value} {c : Nat} {F : Ns} (h : Tree w T0 x0 c F) {q : Path} {n : Nd} (hn : F q = some n) : w.cell? ⟨n.b, 0, none⟩ = some (.map n.mb) ∧ w.frozen? ⟨n.b, 0, none⟩ = false ∧ n.b < w.heap.size := by
  obtain ⟨v, t, e⟩ := nodeC_cells T0 x0 q n
  have hb := h.node q n hn
  rw [e] at hb
  exact ⟨by rw [cell_of_row w n.b 0 _ _ _ hb]; rfl, frozen_of_row w n.b 0 _ _ hb, (Array.getElem?_eq_some_iff.1 hb).1⟩
theorem Tree.leafc {w : World} {T0 : TypeId} {x0 : Value} {c : Nat} {F : Ns} (h : Tree w T0 x0 c F) {q : Path} {n : Nd} (hn : F q = some n) (hq : q ≠ []) : w.cell? ⟨n.b, 1, none⟩ = some (.bool n.lf) ∧ w.frozen? ⟨n.b, 1, none⟩ = false := by
  have hb := h.node q n hn
  rw [nodeC_ne hq] at hb
  exact ⟨by rw [cell_of_row w n.b 1 _ _ _ hb]; rfl, frozen_of_row w n.b 1 _ _ hb⟩
/-- No node's block is a map's. -/
theorem Tree.apart {w : World} {T0 : TypeId} {x0 : Value} {c : Nat} {F : Ns} (h : Tree w T0 x0 c F) {q q' : Path} {n n' : Nd} (hn : F q = some n) (hn' : F q' = some n') {m : Nat} (hm : n'.mb = some m) : n.b ≠ m := by
  rintro rfl
  obtain ⟨v, t, e⟩ := nodeC_cells T0 x0 q n
  have hb := h.node q n hn
  obtain ⟨es, cl, hb2⟩ := ((h.map q' n' hn').lt hm).2
  rw [hb2, e] at hb
  cases hb
theorem Tree.look {w : World} {T0 : TypeId} {x0 : Value} {c : Nat} {F : Ns} (h : Tree w T0 x0 c F) {q : Path} {n : Nd} (hn : F q = some n) {k : List UInt8} (hk : k.length ≤ 1048576) :
    (Instr.lookup 46 (.map n.mb) (.string ⟨k.toArray⟩) false).run Tryz.prog w = .ok (ptr ((F (q ++ [k])).map (·.b))) w := (h.map q n hn).look hk

/-! Changes. -/
def setF (F : Ns) (q : Path) (v : Option Nd) : Ns := fun x => if x = q then v else F x
theorem setF_same (F : Ns) (q : Path) (v : Option Nd) : setF F q v q = v := if_pos rfl
theorem setF_other (F : Ns) {q x : Path} (v : Option Nd) (h : x ≠ q) : setF F q v x = F x := if_neg h
theorem snoc_ne (q : Path) (k : List UInt8) : q ++ [k] ≠ q := fun e => by have := congrArg List.length e; simp at this
theorem snoc_inj {q q' : Path} {k k' : List UInt8} (h : q ++ [k] = q' ++ [k']) : q = q' ∧ k = k' := by
  have h1 := List.append_inj' h rfl
  exact ⟨h1.1, by simpa using h1.2⟩

/-- A node's own cells are turned: its map, or its leaf; nothing of the shape. -/
theorem Tree.turn {w w' : World} {T0 : TypeId} {x0 : Value} {c : Nat} {F : Ns} (h : Tree w T0 x0 c F) {q : Path} {n n' : Nd} (hn : F q = some n) (hb : n'.b = n.b)
    (hh : w'.heap[n.b]? = some (nodeC T0 x0 q n')) (hk : ∀ i, own F i → i ≠ n.b → w'.heap[i]? = w.heap[i]?)
    (hm : Mp w' n'.mb c (fun k => (F (q ++ [k])).map (·.b))) (hfr : n'.mb = n.mb ∨ ∀ m, n'.mb = some m → ∀ q2 n2, F q2 = some n2 → n2.mb ≠ some m) : Tree w' T0 x0 c (setF F q (some n')) := by
  have hsub : ∀ x y, setF F q (some n') x = some y → ∃ y0, F x = some y0 ∧ y0.b = y.b ∧ ((x = q ∧ y = n') ∨ (x ≠ q ∧ y = y0)) := by
    intro x y hx
    by_cases e : x = q
    · subst e
      rw [setF_same] at hx
      obtain rfl := Option.some.inj hx
      exact ⟨n, hn, hb.symm, .inl ⟨rfl, rfl⟩⟩
    · rw [setF_other F _ e] at hx
      exact ⟨y, hx, rfl, .inr ⟨e, rfl⟩⟩
  have hch : ∀ x k, (setF F q (some n') (x ++ [k])).map (·.b) = (F (x ++ [k])).map (·.b) := by
    intro x k
    by_cases e : x ++ [k] = q
    · rw [e, setF_same, hn]; show some n'.b = some n.b; rw [hb]
    · rw [setF_other F _ e]
  refine ⟨?_, ?_, ?_, ?_, ?_, ?_, ?_⟩
  · intro e
    have := h.root
    by_cases e2 : ([] : Path) = q
    · rw [← e2, setF_same] at e; cases e
    · rw [setF_other F _ e2] at e; exact this e
  · intro x k hf
    have h1 : F (x ++ [k]) ≠ none := by
      intro e
      have := hch x k
      rw [e] at this
      cases e3 : setF F q (some n') (x ++ [k]) with
      | none => exact hf e3
      | some y => rw [e3] at this; cases this
    have h2 := h.closed x k h1
    by_cases e : x = q
    · rw [e, setF_same]; simp
    · rw [setF_other F _ e]; exact h2
  · intro x y hx
    obtain ⟨y0, hy0, hyb, h1 | h1⟩ := hsub x y hx
    · obtain ⟨rfl, rfl⟩ := h1
      rw [hb]; exact hh
    · obtain ⟨hne, rfl⟩ := h1
      rw [hk _ ⟨x, y, hy0, .inl rfl⟩ (fun e => hne (h.inj _ _ _ _ hy0 hn e))]
      exact h.node x y hy0
  · intro x y hx
    obtain ⟨y0, hy0, hyb, h1 | h1⟩ := hsub x y hx
    · obtain ⟨rfl, rfl⟩ := h1
      exact hm.congr fun k => (hch x k).symm
    · obtain ⟨hne, rfl⟩ := h1
      exact ((h.map x y hy0).congr fun k => (hch x k).symm).keep fun m hm' => hk m ⟨x, y, hy0, .inr hm'⟩ (Ne.symm (h.apart hn hy0 hm'))
  · intro x x' y y' hx hx' e
    obtain ⟨y0, hy0, hyb, _⟩ := hsub x y hx
    obtain ⟨y0', hy0', hyb', _⟩ := hsub x' y' hx'
    exact h.inj _ _ _ _ hy0 hy0' (by rw [hyb, hyb', e])
  · intro x x' y y' m hx hx' e e'
    obtain ⟨y0, hy0, _, h1⟩ := hsub x y hx
    obtain ⟨y0', hy0', _, h1'⟩ := hsub x' y' hx'
    rcases hfr with hfr | hfr
    · have e1 : y0.mb = some m := by
        rcases h1 with ⟨rfl, rfl⟩ | ⟨_, rfl⟩
        · rw [hn] at hy0; obtain rfl := Option.some.inj hy0; rw [← hfr]; exact e
        · exact e
      have e2 : y0'.mb = some m := by
        rcases h1' with ⟨rfl, rfl⟩ | ⟨_, rfl⟩
        · rw [hn] at hy0'; obtain rfl := Option.some.inj hy0'; rw [← hfr]; exact e'
        · exact e'
      exact h.injm _ _ _ _ _ hy0 hy0' e1 e2
    · rcases h1 with ⟨rfl, rfl⟩ | ⟨hne, rfl⟩
      · rcases h1' with ⟨rfl, _⟩ | ⟨_, rfl⟩
        · rfl
        · exact absurd e' (hfr m e _ _ hy0')
      · rcases h1' with ⟨rfl, rfl⟩ | ⟨_, rfl⟩
        · exact absurd e (hfr m e' _ _ hy0)
        · exact h.injm _ _ _ _ _ hy0 hy0' e e'
  · intro x k hf
    refine h.key x k fun e => ?_
    have := hch x k
    rw [e] at this
    cases e3 : setF F q (some n') (x ++ [k]) with
    | none => exact hf e3
    | some y => rw [e3] at this; cases this
/-- One node more. -/
theorem Tree.add {w w' : World} {T0 : TypeId} {x0 : Value} {c : Nat} {F : Ns} (h : Tree w T0 x0 c F) {q : Path} {n : Nd} (hn : F q = some n) {k : List UInt8} (hk : k.length ≤ 1048576) (hnone : F (q ++ [k]) = none) {m : Nat} (hm : n.mb = some m) {id : Nat}
    (hid : w'.heap[id]? = some (.cells #[.map none, .bool false] 55 (0, 0))) (hfresh : ∀ i, own F i → i ≠ id) (hkp : ∀ i, own F i → i ≠ m → w'.heap[i]? = w.heap[i]?)
    (hmp : Mp w' (some m) (c + 1) (setM (fun k => (F (q ++ [k])).map (·.b)) k (some id))) : Tree w' T0 x0 (c + 1) (setF F (q ++ [k]) (some ⟨id, none, false⟩)) := by
  have hbelow : ∀ r, r ≠ [] → F (q ++ [k] ++ r) = none := by
    intro r hr
    cases e : F (q ++ [k] ++ r) with
    | none => rfl
    | some y => exact absurd hnone (h.closed.prefix (List.prefix_append _ _) (by rw [e]; simp))
  have hsub : ∀ x y, setF F (q ++ [k]) (some ⟨id, none, false⟩) x = some y → (x = q ++ [k] ∧ y = ⟨id, none, false⟩) ∨ (x ≠ q ++ [k] ∧ F x = some y) := by
    intro x y hx
    by_cases e : x = q ++ [k]
    · subst e
      rw [setF_same] at hx
      exact .inl ⟨rfl, (Option.some.inj hx).symm⟩
    · rw [setF_other F _ e] at hx
      exact .inr ⟨e, hx⟩
  refine ⟨?_, ?_, ?_, ?_, ?_, ?_, ?_⟩
  · rw [setF_other F _ (by simp)]; exact h.root
  · intro x k' hf
    by_cases e : x ++ [k'] = q ++ [k]
    · obtain ⟨rfl, _⟩ := snoc_inj e
      rw [setF_other F _ (Ne.symm (snoc_ne _ _)), hn]; simp
    · rw [setF_other F _ e] at hf
      have h1 := h.closed x k' hf
      by_cases e2 : x = q ++ [k]
      · rw [e2, setF_same]; simp
      · rw [setF_other F _ e2]; exact h1
  · intro x y hx
    rcases hsub x y hx with ⟨rfl, rfl⟩ | ⟨_, hx⟩
    · rw [nodeC_child]; exact hid
    · rw [hkp _ ⟨x, y, hx, .inl rfl⟩ (h.apart hx hn hm)]; exact h.node x y hx
  · intro x y hx
    rcases hsub x y hx with ⟨rfl, rfl⟩ | ⟨hne, hf⟩
    · refine .inl ⟨rfl, fun k' => ?_⟩
      dsimp only
      rw [setF_other F _ (snoc_ne _ _), hbelow [k'] (by simp)]; rfl
    · by_cases e : x = q
      · subst e
        rw [hn] at hf
        obtain rfl := Option.some.inj hf
        rw [hm]
        refine hmp.congr fun k' => ?_
        unfold setM
        by_cases e2 : k' = k
        · subst e2; rw [if_pos rfl, setF_same]; rfl
        · rw [if_neg e2, setF_other F _ (fun e3 => e2 (snoc_inj e3).2)]
      · have hxm : y.mb ≠ some m := fun e2 => e (h.injm _ _ _ _ _ hf hn e2 hm)
        refine ((((h.map x y hf).mono (Nat.le_succ c)).keep fun b hb => hkp b ⟨x, y, hf, .inr hb⟩ (by rintro rfl; exact hxm hb))).congr fun k' => ?_
        rw [setF_other F _ (fun e3 => e (snoc_inj e3).1)]
  · intro x x' y y' hx hx' e
    rcases hsub x y hx with ⟨rfl, rfl⟩ | ⟨_, hx⟩
    · rcases hsub x' y' hx' with ⟨rfl, rfl⟩ | ⟨_, hx'⟩
      · rfl
      · exact absurd e.symm (hfresh _ ⟨x', y', hx', .inl rfl⟩)
    · rcases hsub x' y' hx' with ⟨rfl, rfl⟩ | ⟨_, hx'⟩
      · exact absurd e (hfresh _ ⟨x, y, hx, .inl rfl⟩)
      · exact h.inj _ _ _ _ hx hx' e
  · intro x x' y y' b hx hx' e e'
    rcases hsub x y hx with ⟨rfl, rfl⟩ | ⟨_, hx⟩
    · cases e
    · rcases hsub x' y' hx' with ⟨rfl, rfl⟩ | ⟨_, hx'⟩
      · cases e'
      · exact h.injm _ _ _ _ _ hx hx' e e'
  · intro x k' hf
    by_cases e : x ++ [k'] = q ++ [k]
    · rw [(snoc_inj e).2]; exact hk
    · rw [setF_other F _ e] at hf; exact h.key x k' hf
/-- One node less: it leads nowhere. -/
theorem Tree.cut {w w' : World} {T0 : TypeId} {x0 : Value} {c : Nat} {F : Ns} (h : Tree w T0 x0 c F) {q : Path} {n : Nd} (hn : F q = some n) {k : List UInt8} (hend : ∀ k', F (q ++ [k] ++ [k']) = none) {m : Nat} (hm : n.mb = some m)
    (hkp : ∀ i, own F i → i ≠ m → w'.heap[i]? = w.heap[i]?) (hmp : Mp w' (some m) c (setM (fun k => (F (q ++ [k])).map (·.b)) k none)) : Tree w' T0 x0 c (setF F (q ++ [k]) none) := by
  have hsub : ∀ x y, setF F (q ++ [k]) none x = some y → x ≠ q ++ [k] ∧ F x = some y := by
    intro x y hx
    by_cases e : x = q ++ [k]
    · subst e; rw [setF_same] at hx; cases hx
    · rw [setF_other F _ e] at hx; exact ⟨e, hx⟩
  refine ⟨?_, ?_, ?_, ?_, ?_, ?_, ?_⟩
  · rw [setF_other F _ (by simp)]; exact h.root
  · intro x k' hf
    by_cases e : x ++ [k'] = q ++ [k]
    · rw [e, setF_same] at hf; exact absurd rfl hf
    · rw [setF_other F _ e] at hf
      by_cases e2 : x = q ++ [k]
      · subst e2; exact absurd (hend k') hf
      · rw [setF_other F _ e2]; exact h.closed x k' hf
  · intro x y hx
    obtain ⟨_, hx⟩ := hsub x y hx
    rw [hkp _ ⟨x, y, hx, .inl rfl⟩ (h.apart hx hn hm)]; exact h.node x y hx
  · intro x y hx
    obtain ⟨hne, hf⟩ := hsub x y hx
    by_cases e : x = q
    · subst e
      rw [hn] at hf
      obtain rfl := Option.some.inj hf
      rw [hm]
      refine hmp.congr fun k' => ?_
      unfold setM
      by_cases e2 : k' = k
      · subst e2; rw [if_pos rfl, setF_same]; rfl
      · rw [if_neg e2, setF_other F _ (fun e3 => e2 (snoc_inj e3).2)]
    · have hxm : y.mb ≠ some m := fun e2 => e (h.injm _ _ _ _ _ hf hn e2 hm)
      refine ((h.map x y hf).keep fun b hb => hkp b ⟨x, y, hf, .inr hb⟩ (by rintro rfl; exact hxm hb)).congr fun k' => ?_
      rw [setF_other F _ (fun e3 => e (snoc_inj e3).1)]
  · intro x x' y y' hx hx' e
    exact h.inj _ _ _ _ (hsub x y hx).2 (hsub x' y' hx').2 e
  · intro x x' y y' b hx hx' e e'
    exact h.injm _ _ _ _ _ (hsub x y hx).2 (hsub x' y' hx').2 e e'
  · intro x k' hf
    by_cases e : x ++ [k'] = q ++ [k]
    · rw [e, setF_same] at hf; exact absurd rfl hf
    · rw [setF_other F _ e] at hf; exact h.key x k' hf
end Tr
end Go.Proofs.YtfmbbhcjnidcbaaGreatDoor

namespace Go.Proofs.YtfmbbhcjnidcbaaGreatDoor
open Go.RowKit
open Me
namespace Tr

/-- Cells that read as parts. -/
structure RowS (w : World) (pb po : Nat) (r : Path) : Prop where
  lt : pb < w.heap.size
  cell : ∀ j (h : j < r.length), w.cell? ⟨pb, po + j, none⟩ = some (.string ⟨(r[j]).toArray⟩)
theorem RowS.keep {w w' : World} {pb po : Nat} {r : Path} (h : RowS w pb po r) (hs : w.heap.size ≤ w'.heap.size) (hk : w'.heap[pb]? = w.heap[pb]?) : RowS w' pb po r :=
  ⟨Nat.lt_of_lt_of_le h.lt hs, fun j hj => (World.cell?_of_block hk).trans (h.cell j hj)⟩
theorem RowS.below {w w' : World} {pb po : Nat} {r : Path} (h : RowS w pb po r) (hb : Below w.heap.size w w') : RowS w' pb po r := h.keep hb.size (hb.block pb h.lt)
theorem RowS.tail {w : World} {pb po : Nat} {k : List UInt8} {r : Path} (h : RowS w pb po (k :: r)) : RowS w pb (po + 1) r :=
  ⟨h.lt, fun j hj => by
    have := h.cell (j + 1) (by simpa using hj)
    rw [show po + 1 + j = po + (j + 1) by omega]
    simpa using this⟩
theorem RowS.head {w : World} {pb po : Nat} {k : List UInt8} {r : Path} (h : RowS w pb po (k :: r)) : w.cell? ⟨pb, po, none⟩ = some (.string ⟨k.toArray⟩) := by
  have := h.cell 0 (by simp)
  simpa using this
end Tr

set_option maxRecDepth 100000 in
set_option maxHeartbeats 1000000 in
theorem reach_far {nb yb pb po m cap : Nat} {mb : Option Nat} {k : List UInt8} {A : Value} (w : World) (c0 : w.cell? ⟨nb, 0, none⟩ = some (.map mb)) (c1 : w.cell? ⟨pb, po, none⟩ = some (.string ⟨k.toArray⟩))
    (hl : (Instr.lookup 46 (.map mb) (.string ⟨k.toArray⟩) false).run Tryz.prog w.drew = .ok (.pointer (some ⟨yb, 0, none⟩)) w.drew) (hm1 : 1 ≤ m) (hmc : m + 1 ≤ cap)
    (HC : Hid (∀ W, Below w.heap.size w W → Calls Tryz.prog 32 #[.pointer (some ⟨yb, 0, none⟩), .slice (some ⟨pb, po + 1, none⟩) m (cap - 1)] W fun e w' => e = .returned A ∧ Below W.heap.size W w')) :
    Calls Tryz.prog 32 #[.pointer (some ⟨nb, 0, none⟩), .slice (some ⟨pb, po, none⟩) (m + 1) cap] w fun e w' => e = .returned A ∧ Below w.heap.size w w' := by
  have hle : (1 : Int) ≤ (m : Int) + 1 := by omega
  have hcap : ¬ cap = 1 := by omega
  have hne : ((m : Int) + 1 == 1) = false := by rw [beq_eq_false_iff_ne]; omega
  go_enter Tryz.func32, Tryz.ntmps32
  go_wp2_with fail
  go_region
  all_goals
    have HD := Lib.hid (HC.out w.drew.drew ((Below.refl _ _).drew.drew))
    go_wp2_with fail
    go_region_law (go_simp; go_at_call 32; refine HD.out.mono ?_; rintro e w' ⟨rfl, hb⟩)
    all_goals
      go_wp2_with fail
      go_ret
      exact ⟨rfl, ((Below.refl _ _).drew.drew).trans hb⟩

set_option maxRecDepth 100000 in
set_option maxHeartbeats 1000000 in
theorem reach_any {T0 : TypeId} {x0 : Value} {c : Nat} {F : Tr.Ns} : ∀ (r : Tr.Path) (q : Tr.Path) (n : Tr.Nd) (pb po cap : Nat) (w : World), Tr.Tree w T0 x0 c F → F q = some n → r ≠ [] → (∀ k ∈ r, k.length ≤ 1048576) → Tr.RowS w pb po r → r.length ≤ cap →
    Calls Tryz.prog 32 #[.pointer (some ⟨n.b, 0, none⟩), .slice (some ⟨pb, po, none⟩) r.length cap] w fun e w' => e = .returned (Tr.ptr ((F (q ++ r)).map (·.b))) ∧ Below w.heap.size w w'
  | [], _, _, _, _, _, _, _, _, h, _, _, _ => absurd rfl h
  | k :: r, q, n, pb, po, cap, w, hT, hn, _, hk, hR, hc => by
    have hk1 : k.length ≤ 1048576 := hk k (List.mem_cons_self ..)
    obtain ⟨c0, _, _⟩ := hT.cell hn
    have c1 := hR.head
    have hl := (hT.keep (w' := w.drew) fun _ _ => rfl).look hn hk1
    have hcr : (r.length : Int) + 1 ≤ (cap : Int) := by rw [List.length_cons] at hc; omega
    have hcn : r.length + 1 ≤ cap := by rw [List.length_cons] at hc; exact hc
    have hpath : q ++ k :: r = q ++ [k] ++ r := by simp
    cases e : F (q ++ [k]) with
    | none =>
      have hnone : F (q ++ k :: r) = none := by
        cases e2 : F (q ++ k :: r) with
        | none => rfl
        | some y => exact absurd e (hT.closed.prefix (q := q ++ [k]) (x := q ++ k :: r) ⟨r, by simp⟩ (by rw [e2]; simp))
      rw [hnone]
      rw [e] at hl
      clear hT hR hk hn hc hpath
      simp only [Option.map_none, Tr.ptr] at hl ⊢
      go_enter Tryz.func32, Tryz.ntmps32
      go_wp2_with fail
      go_region
      all_goals
        go_wp2_with fail
        go_ret
        exact ⟨rfl, (Below.refl _ _).drew⟩
    | some y =>
      rw [e] at hl
      have IH : Hid (r ≠ [] → ∀ W, Below w.heap.size w W → Calls Tryz.prog 32 #[.pointer (some ⟨y.b, 0, none⟩), .slice (some ⟨pb, po + 1, none⟩) r.length (cap - 1)] W fun e w' => e = .returned (Tr.ptr ((F (q ++ k :: r)).map (·.b))) ∧ Below W.heap.size W w') := Lib.hid fun hr W hW => by
        have h0 := reach_any r (q ++ [k]) y pb (po + 1) (cap - 1) W (hT.below hW) e hr (fun x hx => hk x (List.mem_cons_of_mem _ hx)) (hR.below hW).tail (by rw [List.length_cons] at hc; omega)
        rw [← hpath] at h0
        exact h0
      have HE : Hid (F (q ++ [k]) = some y) := Lib.hid e
      clear hT hR hk hn hc
      simp only [Option.map_some, Tr.ptr] at hl
      cases r with
      | nil =>
        clear IH
        rw [HE.out]
        go_enter Tryz.func32, Tryz.ntmps32
        go_wp2_with fail
        go_region
        all_goals
          go_wp2_with fail
          go_ret
          exact ⟨rfl, (Below.refl _ _).drew⟩
      | cons k2 r2 =>
        have HC := Lib.hid (IH.out (by simp))
        clear IH HE hpath
        exact reach_far w c0 c1 hl (by rw [List.length_cons]; omega) hcn HC
end Go.Proofs.YtfmbbhcjnidcbaaGreatDoor

namespace Go.Proofs.YtfmbbhcjnidcbaaGreatDoor
open Go.RowKit
open Me

namespace Tr
theorem turned_kp {w w' : World} {b : Nat} (h : w.mapTurned w' b) : Kp (fun i => i = b) w w' ∧ w'.heap.size = w.heap.size := by
  have hg := h.grown
  refine ⟨(Kp.refl _ _).grown hg (fun g hg => .inr (Option.some.inj hg).symm), ?_⟩
  obtain ⟨es, clock, es', clock', hb, rfl⟩ := h
  simp [ChangeMaps.setBlock]
/-- What grow hands back, the branch made or not: w1 is the world where it stands. -/
def Gw (w1 : World) (m id pb po cap : Nat) (R : Value → World → Prop) : Prop :=
  (m = 0 → ∀ W, Below w1.heap.size w1 W → R (.pointer (some ⟨id, 0, none⟩)) W) ∧
  (1 ≤ m → ∀ W, Below w1.heap.size w1 W → Calls Tryz.prog 20 #[.pointer (some ⟨id, 0, none⟩), .slice (some ⟨pb, po + 1, none⟩) m (cap - 1)] W fun e w' => ∃ v, e = .returned v ∧ R v w')
end Tr

set_option maxRecDepth 100000 in
set_option maxHeartbeats 1000000 in
/-- The branch is there. -/
theorem grow_c {nb yb pb po m cap : Nat} {mb : Option Nat} {k : List UInt8} {R : Value → World → Prop} (w : World) (c0 : w.cell? ⟨nb, 0, none⟩ = some (.map mb)) (c1 : w.cell? ⟨pb, po, none⟩ = some (.string ⟨k.toArray⟩))
    (hl : (Instr.lookup 46 (.map mb) (.string ⟨k.toArray⟩) false).run Tryz.prog w.drew = .ok (.pointer (some ⟨yb, 0, none⟩)) w.drew) (hmc : m + 1 ≤ cap) (HG : Hid (Tr.Gw w m yb pb po cap R)) :
    Calls Tryz.prog 20 #[.pointer (some ⟨nb, 0, none⟩), .slice (some ⟨pb, po, none⟩) (m + 1) cap] w fun e w' => ∃ v, e = .returned v ∧ R v w' := by
  have qT : ∀ (w : World) (r : Option Nat), (binOp .eql 46 (.map r) (.map none)).run Tryz.prog w = .ok (.bool r.isNone) w := fun w r => run_eql_map_nil w _ _ _ r Tryz.underlying46
  by_cases hm : m = 0
  · subst hm
    have HR := Lib.hid (HG.out.1 rfl)
    clear HG
    go_enter Tryz.func20, Tryz.ntmps20
    go_wp2_with fail
    go_region
    all_goals
      go_wp2_with fail
      go_ret
      exact ⟨_, rfl, HR.out _ ((Below.refl _ _).drew)⟩
  · have hle : (1 : Int) ≤ (m : Int) + 1 := by omega
    have hcap : ¬ cap = 1 := by omega
    have hne : ((m : Int) + 1 == 1) = false := by rw [beq_eq_false_iff_ne]; omega
    have HC := Lib.hid (HG.out.2 (by omega))
    clear HG
    go_enter Tryz.func20, Tryz.ntmps20
    go_wp2_with fail
    go_region
    all_goals
      have HD := Lib.hid (HC.out w.drew.drew ((Below.refl _ _).drew.drew))
      go_wp2_with fail
      go_region_law (go_simp; go_at_call 20; refine HD.out.mono ?_; rintro e w' ⟨v, rfl, hr⟩)
      all_goals
        go_wp2_with fail
        go_ret
        exact ⟨_, rfl, hr⟩

set_option maxRecDepth 100000 in
set_option maxHeartbeats 1000000 in
/-- The branch lacks, the map is there. -/
theorem grow_b {nb mb pb po m cap id : Nat} {k : List UInt8} {R : Value → World → Prop} (w w2 : World) (nl : nb < w.heap.size) (pl : pb < w.heap.size) (c0 : w.cell? ⟨nb, 0, none⟩ = some (.map (some mb))) (c1 : w.cell? ⟨pb, po, none⟩ = some (.string ⟨k.toArray⟩))
    (hl : (Instr.lookup 46 (.map (some mb)) (.string ⟨k.toArray⟩) false).run Tryz.prog w.drew = .ok (.pointer none) w.drew) (hid : id = w.heap.size) (hmc : m + 1 ≤ cap)
    (hst : (Instr.mapUpdate 46 (.map (some mb)) (.string ⟨k.toArray⟩) (.pointer (some ⟨id, 0, none⟩))).run Tryz.prog (w.alloc (.cells #[.map none, .bool false] 55)).drew.drew = .ok () w2) (HG : Hid (Tr.Gw w2 m id pb po cap R)) :
    Calls Tryz.prog 20 #[.pointer (some ⟨nb, 0, none⟩), .slice (some ⟨pb, po, none⟩) (m + 1) cap] w fun e w' => ∃ v, e = .returned v ∧ R v w' := by
  have qT : ∀ (w : World) (r : Option Nat), (binOp .eql 46 (.map r) (.map none)).run Tryz.prog w = .ok (.bool r.isNone) w := fun w r => run_eql_map_nil w _ _ _ r Tryz.underlying46
  subst hid
  by_cases hm : m = 0
  · subst hm
    have HR := Lib.hid (HG.out.1 rfl)
    clear HG
    go_enter Tryz.func20, Tryz.ntmps20
    go_wp2_with fail
    go_region
    go_wp2_with fail
    go_region
    all_goals
      go_wp2_with fail
      go_ret
      exact ⟨_, rfl, HR.out _ (Below.refl _ _)⟩
  · have hle : (1 : Int) ≤ (m : Int) + 1 := by omega
    have hcap : ¬ cap = 1 := by omega
    have hne : ((m : Int) + 1 == 1) = false := by rw [beq_eq_false_iff_ne]; omega
    have HD := Lib.hid (HG.out.2 (by omega) w2.drew ((Below.refl _ _).drew))
    clear HG
    go_enter Tryz.func20, Tryz.ntmps20
    go_wp2_with fail
    go_region
    go_wp2_with fail
    go_region
    all_goals
      go_wp2_with fail
      go_region_law (go_simp; go_at_call 20; refine HD.out.mono ?_; rintro e w' ⟨v, rfl, hr⟩)
      all_goals
        go_wp2_with fail
        go_ret
        exact ⟨_, rfl, hr⟩

set_option maxRecDepth 100000 in
set_option maxHeartbeats 1000000 in
/-- The branch lacks, and so does the map. -/
theorem grow_a {nb pb po m cap id bm : Nat} {k : List UInt8} {R : Value → World → Prop} (w w2 : World) (nl : nb < w.heap.size) (pl : pb < w.heap.size) (hnp : pb ≠ nb) (f0 : w.frozen? ⟨nb, 0, none⟩ = false) (c0 : w.cell? ⟨nb, 0, none⟩ = some (.map none)) (c1 : w.cell? ⟨pb, po, none⟩ = some (.string ⟨k.toArray⟩))
    (hl : (Instr.lookup 46 (.map none) (.string ⟨k.toArray⟩) false).run Tryz.prog w.drew = .ok (.pointer none) w.drew) (hbm : bm = w.heap.size) (hid : id = w.heap.size + 1) (hmc : m + 1 ≤ cap)
    (hst : (Instr.mapUpdate 46 (.map (some bm)) (.string ⟨k.toArray⟩) (.pointer (some ⟨id, 0, none⟩))).run Tryz.prog (((w.setCell ⟨nb, 0, none⟩ (.map (some bm))).alloc (.map #[] 0)).alloc (.cells #[.map none, .bool false] 55)).drew.drew = .ok () w2) (HG : Hid (Tr.Gw w2 m id pb po cap R)) :
    Calls Tryz.prog 20 #[.pointer (some ⟨nb, 0, none⟩), .slice (some ⟨pb, po, none⟩) (m + 1) cap] w fun e w' => ∃ v, e = .returned v ∧ R v w' := by
  have hmm := @run_makeMap Tryz.prog
  have qT : ∀ (w : World) (r : Option Nat), (binOp .eql 46 (.map r) (.map none)).run Tryz.prog w = .ok (.bool r.isNone) w := fun w r => run_eql_map_nil w _ _ _ r Tryz.underlying46
  subst hid hbm
  by_cases hm : m = 0
  · subst hm
    have HR := Lib.hid (HG.out.1 rfl)
    clear HG
    go_enter Tryz.func20, Tryz.ntmps20
    go_wp2_with fail
    go_region
    go_wp2_with fail
    go_region
    all_goals
      go_wp2_with fail
      go_ret
      exact ⟨_, rfl, HR.out _ (Below.refl _ _)⟩
  · have hle : (1 : Int) ≤ (m : Int) + 1 := by omega
    have hcap : ¬ cap = 1 := by omega
    have hne : ((m : Int) + 1 == 1) = false := by rw [beq_eq_false_iff_ne]; omega
    have HD := Lib.hid (HG.out.2 (by omega) w2.drew ((Below.refl _ _).drew))
    clear HG
    go_enter Tryz.func20, Tryz.ntmps20
    go_wp2_with fail
    go_region
    go_wp2_with fail
    go_region
    all_goals
      go_wp2_with fail
      go_region_law (go_simp; go_at_call 20; refine HD.out.mono ?_; rintro e w' ⟨v, rfl, hr⟩)
      all_goals
        go_wp2_with fail
        go_ret
        exact ⟨_, rfl, hr⟩
end Go.Proofs.YtfmbbhcjnidcbaaGreatDoor
