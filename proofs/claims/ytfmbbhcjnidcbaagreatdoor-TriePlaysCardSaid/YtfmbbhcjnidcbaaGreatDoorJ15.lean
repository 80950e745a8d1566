/-
  TrF: PLAIN: a tree of nodes, told by the paths to them: what grows, what is cut, what is found. No program.
  TrMap: MEMORY: a map from texts to branches, nil or not, as laws for the walk: looked up, stored, struck, counted, ranged over.
-/
import Derived.Test.YtfmbbhcjnidcbaaGreatDoorJ3
import Derived.Test.YtfmbbhcjnidcbaaGreatDoorJ5
import Derived.Test.YtfmbbhcjnidcbaaGreatDoorRows
import Derived.Test.YtfmbbhcjnidcbaaGreatDoorProg
import Derived.Maps.OwnSet
import Derived.Maps.OwnOps
import Derived.Maps.RangeWalk
import Derived.Laws.IdiomRangeMap
import Derived.Sort.KeysCollected
import Derived.RegionTactic

namespace Go.Proofs.YtfmbbhcjnidcbaaGreatDoor
open Go.RowKit

namespace Tr
/-- A node: its block, its map's, whether something ends there. -/
structure Nd where
  b : Nat
  mb : Option Nat
  lf : Bool
abbrev Ns := Path → Option Nd
def isLeaf (F : Ns) (q : Path) : Bool := match F q with
  | some n => n.lf
  | none => false
theorem isLeaf_of {F : Ns} {q : Path} {n : Nd} (h : F q = some n) : isLeaf F q = n.lf := by unfold isLeaf; rw [h]
theorem isLeaf_in {F : Ns} {q : Path} (h : isLeaf F q = true) : F q ≠ none := by
  unfold isLeaf at h
  split at h
  · rename_i e; rw [e]; simp
  · cases h
noncomputable def isBr (F : Ns) (q : Path) : Bool := @decide (∃ k, F (q ++ [k]) ≠ none) (Classical.propDecidable _)
theorem isBr_iff {F : Ns} {q : Path} : isBr F q = true ↔ ∃ k, F (q ++ [k]) ≠ none := by unfold isBr; exact @decide_eq_true_iff _ (Classical.propDecidable _)
def Closed (F : Ns) : Prop := ∀ q k, F (q ++ [k]) ≠ none → F q ≠ none
theorem Closed.pre {F : Ns} (h : Closed F) (q : Path) : ∀ (m : Nat) (r : Path), r.length = m → F (q ++ r) ≠ none → F q ≠ none
  | 0, r, hr, hf => by
    have : r = [] := List.eq_nil_of_length_eq_zero hr
    subst this
    rwa [List.append_nil] at hf
  | m + 1, r, hr, hf => by
    have hne : r ≠ [] := by rintro rfl; cases hr
    rw [← List.dropLast_concat_getLast hne, ← List.append_assoc] at hf
    exact h.pre q m r.dropLast (by rw [List.length_dropLast]; omega) (h _ _ hf)
theorem Closed.prefix {F : Ns} (h : Closed F) {q x : Path} (hx : q <+: x) (hf : F x ≠ none) : F q ≠ none := by
  obtain ⟨r, rfl⟩ := hx
  exact h.pre q _ r rfl hf
/-- The tree of these texts. -/
structure Of (F : Ns) (L : List (List UInt8)) : Prop where
  root : F [] ≠ none
  closed : Closed F
  rootl : isLeaf F [] = false
  leaf : ∀ q, isLeaf F q = true ↔ ∃ s ∈ L, Nm.pt s = q
  live : ∀ q, q ≠ [] → F q ≠ none → ∃ s ∈ L, q <+: Nm.pt s
theorem Of.there {F : Ns} {L : List (List UInt8)} (h : Of F L) {q : Path} {s : List UInt8} (hs : s ∈ L) (hq : q <+: Nm.pt s) : F q ≠ none :=
  h.closed.prefix hq (isLeaf_in ((h.leaf _).2 ⟨s, hs, rfl⟩))
theorem Of.iff {F : Ns} {L : List (List UInt8)} (h : Of F L) {q : Path} (hq : q ≠ []) : F q ≠ none ↔ ∃ s ∈ L, q <+: Nm.pt s := ⟨h.live q hq, fun ⟨_, hs, hp⟩ => h.there hs hp⟩
theorem Of.congr {F : Ns} {L L' : List (List UInt8)} (h : Of F L) (hL : ∀ s, s ∈ L ↔ s ∈ L') : Of F L' :=
  ⟨h.root, h.closed, h.rootl, fun q => (h.leaf q).trans (exists_congr fun s => and_congr_left fun _ => hL s), fun q hq hf => by
    obtain ⟨s, hs, hp⟩ := h.live q hq hf
    exact ⟨s, (hL s).1 hs, hp⟩⟩
theorem Of.empty {F : Ns} (h0 : F [] ≠ none) (h1 : isLeaf F [] = false) (h : ∀ q, q ≠ [] → F q = none) : Of F [] :=
  ⟨h0, fun q k hf => absurd (h _ (by simp)) hf, h1, fun q => ⟨fun hl => by
      by_cases e : q = []
      · subst e; rw [h1] at hl; cases hl
      · exact absurd (h q e) (isLeaf_in hl), fun ⟨_, hs, _⟩ => by cases hs⟩, fun q hq hf => absurd (h q hq) hf⟩
theorem Of.is_leaf {F : Ns} {L : List (List UInt8)} (h : Of F L) (s : List UInt8) : isLeaf F (Nm.pt s) = true ↔ s ∈ L := by
  rw [h.leaf]
  exact ⟨fun ⟨t, ht, e⟩ => by rw [← pt_inj e]; exact ht, fun hs => ⟨s, hs, rfl⟩⟩

/-- One text more: its path is there, its end is a leaf; all else as it was. -/
structure More (F F' : Ns) (q : Path) : Prop where
  dom : ∀ x, F' x ≠ none ↔ F x ≠ none ∨ x <+: q
  leaf : ∀ x, isLeaf F' x = true ↔ isLeaf F x = true ∨ x = q
theorem prefix_snoc {x q : Path} {k : List UInt8} (h : x ++ [k] <+: q) : x <+: q := (List.prefix_append x [k]).trans h
theorem Of.more {F F' : Ns} {L : List (List UInt8)} {s : List UInt8} (h : Of F L) (m : More F F' (Nm.pt s)) : Of F' (s :: L) where
  root := (m.dom []).2 (.inl h.root)
  closed q k hf := by
    rcases (m.dom _).1 hf with h1 | h1
    · exact (m.dom q).2 (.inl (h.closed q k h1))
    · exact (m.dom q).2 (.inr (prefix_snoc h1))
  rootl := by
    cases e : isLeaf F' [] with
    | false => rfl
    | true =>
      rcases (m.leaf []).1 e with h1 | h1
      · rw [h.rootl] at h1; cases h1
      · exact absurd h1.symm (Nm.pt_ne s)
  leaf q := by
    rw [m.leaf, h.leaf]
    constructor
    · rintro (⟨t, ht, e⟩ | e)
      · exact ⟨t, List.mem_cons_of_mem _ ht, e⟩
      · exact ⟨s, List.mem_cons_self .., e.symm⟩
    · rintro ⟨t, ht, e⟩
      rcases List.mem_cons.1 ht with rfl | ht
      · exact .inr e.symm
      · exact .inl ⟨t, ht, e⟩
  live q hq hf := by
    rcases (m.dom q).1 hf with h1 | h1
    · obtain ⟨t, ht, hp⟩ := h.live q hq h1
      exact ⟨t, List.mem_cons_of_mem _ ht, hp⟩
    · exact ⟨s, List.mem_cons_self .., h1⟩
/-- One text less: its end is no leaf any more, what leads to nothing else is gone. -/
structure Less (F F' : Ns) (q : Path) : Prop where
  dom : ∀ x, F' x ≠ none ↔ F x ≠ none ∧ (x = [] ∨ ∃ r, r ≠ q ∧ isLeaf F r = true ∧ x <+: r)
  leaf : ∀ x, isLeaf F' x = true ↔ isLeaf F x = true ∧ x ≠ q
theorem Of.less {F F' : Ns} {L L' : List (List UInt8)} {s : List UInt8} (h : Of F L) (m : Less F F' (Nm.pt s)) (hL : ∀ t, t ∈ L' ↔ t ∈ L ∧ t ≠ s) : Of F' L' where
  root := (m.dom []).2 ⟨h.root, .inl rfl⟩
  closed q k hf := by
    obtain ⟨h1, h2⟩ := (m.dom _).1 hf
    refine (m.dom q).2 ⟨h.closed q k h1, ?_⟩
    rcases h2 with h2 | ⟨r, hr, hl, hp⟩
    · simp at h2
    · exact .inr ⟨r, hr, hl, prefix_snoc hp⟩
  rootl := by
    cases e : isLeaf F' [] with
    | false => rfl
    | true =>
      have := ((m.leaf []).1 e).1
      rw [h.rootl] at this; cases this
  leaf q := by
    rw [m.leaf, h.leaf]
    constructor
    · rintro ⟨⟨t, ht, rfl⟩, hn⟩
      exact ⟨t, (hL t).2 ⟨ht, fun e => hn (by rw [e])⟩, rfl⟩
    · rintro ⟨t, ht, rfl⟩
      obtain ⟨h1, h2⟩ := (hL t).1 ht
      exact ⟨⟨t, h1, rfl⟩, fun e => h2 (pt_inj e)⟩
  live q hq hf := by
    obtain ⟨h1, h2⟩ := (m.dom q).1 hf
    rcases h2 with h2 | ⟨r, hr, hl, hp⟩
    · exact absurd h2 hq
    · obtain ⟨t, ht, rfl⟩ := (h.leaf r).1 hl
      exact ⟨t, (hL t).2 ⟨ht, fun e => hr (by rw [e])⟩, hp⟩

/-! What is found. -/
def Found (F : Ns) (T : List (List UInt8)) (q : Path) : Prop := F q ≠ none ∧ q ≠ [] ∧ ∃ t ∈ T, mtch (Nm.pt t) q = true
theorem hits_are {F : Ns} {L T : List (List UInt8)} (h : Of F L) {qs : List Path} (hs : qs.Pairwise (fun a b => ltP a b = true)) (hq : ∀ q, q ∈ qs ↔ Found F T q) (hb : ∀ q ∈ qs, Nm.pt (Nm.jn q) = q) :
    hitsAll (isBr F) (isLeaf F) qs = findD (T.map Nm.pt) L := by
  refine hits_uniq (hitsAll_sorted _ _ qs hb hs) (findD_sorted _ _) fun y => ?_
  rw [mem_hitsAll, mem_findD]
  constructor
  · rintro ⟨q, hqq, hy, hk⟩
    obtain ⟨hf, hne, t, ht, hm⟩ := (hq q).1 hqq
    have hlen := mtch_len hm
    refine ⟨Nm.pt t, List.mem_map.2 ⟨t, ht, rfl⟩, ?_⟩
    rcases hk with ⟨h1, h2⟩ | ⟨h1, h2⟩
    · obtain ⟨k, hk⟩ := isBr_iff.1 h2
      obtain ⟨s, hs, hp⟩ := h.live _ (by simp) hk
      obtain ⟨r, hr⟩ := hp
      refine ⟨s, hs, ?_⟩
      have e1 : (Nm.pt s).take (Nm.pt t).length = q := by rw [← hr, hlen, List.append_assoc]; exact List.take_left
      have e2 : (Nm.pt s).length = q.length + 1 + r.length := by rw [← hr]; simp; omega
      unfold hit
      rw [e1, if_pos ⟨by omega, hm⟩, decide_eq_false (by omega)]
      obtain ⟨n, b⟩ := y
      simp only at hy h1
      rw [hy, h1]
    · obtain ⟨s, hs, hp⟩ := (h.leaf q).1 h2
      refine ⟨s, hs, ?_⟩
      have e1 : (Nm.pt s).take (Nm.pt t).length = q := by rw [hp, hlen, List.take_length]
      unfold hit
      rw [e1, if_pos ⟨by rw [hp]; omega, hm⟩, decide_eq_true (by rw [hp]; omega)]
      obtain ⟨n, b⟩ := y
      simp only at hy h1
      rw [hy, h1]
  · rintro ⟨p, hp, s, hs, he⟩
    obtain ⟨t, ht, rfl⟩ := List.mem_map.1 hp
    unfold hit at he
    split at he
    · rename_i hc
      obtain ⟨hle, hm⟩ := hc
      have hy := Option.some.inj he
      have hlen := mtch_len hm
      have hne : (Nm.pt s).take (Nm.pt t).length ≠ [] := by
        intro e
        rw [e] at hlen
        exact Nm.pt_ne t (List.eq_nil_of_length_eq_zero hlen)
      have hpre : (Nm.pt s).take (Nm.pt t).length <+: Nm.pt s := List.take_prefix _ _
      refine ⟨(Nm.pt s).take (Nm.pt t).length, (hq _).2 ⟨h.there hs hpre, hne, t, ht, hm⟩, by rw [← hy], ?_⟩
      by_cases hll : (Nm.pt s).length = (Nm.pt t).length
      · refine .inr ⟨by rw [← hy]; exact decide_eq_true hll, ?_⟩
        rw [← hll, List.take_length]
        exact (h.leaf _).2 ⟨s, hs, rfl⟩
      · refine .inl ⟨by rw [← hy]; exact decide_eq_false hll, isBr_iff.2 ⟨(Nm.pt s)[(Nm.pt t).length]'(by omega), h.there hs ?_⟩⟩
        rw [← List.take_succ_eq_append_getElem (by omega)]
        exact List.take_prefix _ _
    · cases he

/-! Where patterns have come to. -/
/-- The nodes of patterns that have matched a path. -/
def At (G : Ns) (p : Path) (x : Path) : Prop := G x ≠ none ∧ mtch x p = true
theorem At.start {G : Ns} (h : G [] ≠ none) (x : Path) : At G [] x ↔ x = [] := by
  unfold At
  constructor
  · rintro ⟨_, hm⟩
    exact List.eq_nil_of_length_eq_zero (by rw [mtch_len hm]; rfl)
  · rintro rfl; exact ⟨h, rfl⟩
theorem At.snoc {G : Ns} (hc : Closed G) (p : Path) (k : List UInt8) (x : Path) : At G (p ++ [k]) x ↔ ∃ y a, x = y ++ [a] ∧ At G p y ∧ G (y ++ [a]) ≠ none ∧ Gl.gm a k = true := by
  unfold At
  constructor
  · rintro ⟨hf, hm⟩
    have hl := mtch_len hm
    have hne : x ≠ [] := by rintro rfl; simp at hl
    have e := (List.dropLast_concat_getLast hne).symm
    generalize x.dropLast = y at e
    generalize x.getLast hne = a at e
    subst e
    rw [mtch_snoc y p a k (by simpa using hl)] at hm
    obtain ⟨h1, h2⟩ := Bool.and_eq_true_iff.1 hm
    exact ⟨y, a, rfl, ⟨hc y a hf, h1⟩, hf, h2⟩
  · rintro ⟨y, a, rfl, ⟨_, hm⟩, hf, hg⟩
    exact ⟨hf, by rw [mtch_snoc y p a k (mtch_len hm), hm, hg]; rfl⟩
/-- Nothing has come so far: nothing comes further. -/
theorem At.none {G : Ns} (hc : Closed G) {p : Path} (h : ∀ x, ¬ At G p x) (r : Path) (x : Path) : ¬ At G (p ++ r) x := by
  rintro ⟨hf, hm⟩
  have hl := mtch_len hm
  rw [List.length_append] at hl
  have e : x = x.take p.length ++ x.drop p.length := (List.take_append_drop _ _).symm
  rw [e, mtch_app _ _ (by rw [List.length_take]; omega)] at hm
  rw [e] at hf
  exact h _ ⟨hc.prefix (List.prefix_append _ _) hf, (Bool.and_eq_true_iff.1 hm).1⟩
theorem At.found {G : Ns} {T : List (List UInt8)} (hG : Of G T) (q : Path) : (∃ x, At G q x ∧ isLeaf G x = true) ↔ ∃ t ∈ T, mtch (Nm.pt t) q = true := by
  constructor
  · rintro ⟨x, ⟨_, hm⟩, hl⟩
    obtain ⟨t, ht, rfl⟩ := (hG.leaf x).1 hl
    exact ⟨t, ht, hm⟩
  · rintro ⟨t, ht, hm⟩
    have hl := (hG.leaf (Nm.pt t)).2 ⟨t, ht, rfl⟩
    exact ⟨Nm.pt t, ⟨isLeaf_in hl, hm⟩, hl⟩
end Tr
end Go.Proofs.YtfmbbhcjnidcbaaGreatDoor

namespace Go.Proofs.YtfmbbhcjnidcbaaGreatDoor
open Go.RowKit
open Me
namespace Tr

def setM (m : List UInt8 → Option Nat) (n : List UInt8) (v : Option Nat) : List UInt8 → Option Nat := fun x => if x = n then v else m x
/-- How a pointer to a block's head reads. -/
def ptrR : Value → Option (DataW Unit × List MemPlace)
  | .pointer none => some (.nil, [])
  | .pointer (some ⟨b, 0, none⟩) => some (.lit (.int .i64 (b : Int)), [])
  | _ => none
def enc : Option Nat → DataW Unit
  | none => .nil
  | some b => .lit (.int .i64 (b : Int))
def ptr : Option Nat → Value
  | none => .pointer none
  | some b => .pointer (some ⟨b, 0, none⟩)
theorem ptr_of {v : Value} {y : DataW Unit × List MemPlace} (h : ptrR v = some y) : ∃ c, v = ptr c ∧ y = (enc c, []) := by
  unfold ptrR at h
  split at h
  · exact ⟨none, rfl, (Option.some.inj h).symm⟩
  · rename_i b
    exact ⟨some b, rfl, (Option.some.inj h).symm⟩
  · cases h
theorem enc_inj {a b : Option Nat} (h : enc a = enc b) : a = b := by
  cases a <;> cases b <;> simp [enc] at h ⊢
  exact_mod_cast h
theorem ptrR_inv {v : Value} {m : Option Nat} {ps : List MemPlace} (h : ptrR v = some (enc m, ps)) : v = ptr m := by
  obtain ⟨c, rfl, e⟩ := ptr_of h
  rw [enc_inj (congrArg Prod.fst e)]
/-- A map's datum that says this. -/
structure Says (D : DataW Unit) (m : List UInt8 → Option Nat) : Prop where
  at_ : ∀ n, D.atKey (.string n) .nil = enc (m n)
  has : ∀ n, Maps.has D (.string n) = (m n).isSome
/-- A map, nil or not, from texts to pointers. -/
def Mp (w : World) (mb : Option Nat) (k : Nat) (m : List UInt8 → Option Nat) : Prop :=
  (mb = none ∧ ∀ n, m n = none) ∨ ∃ b D, mb = some b ∧ w.ownsMap Tryz.prog 9 ptrR b k D ∧ Says D m
theorem keyS : Maps.Keyed Tryz.prog 9 := Maps.string_keyed Tryz.underlying9
theorem keyN (n : List UInt8) (h : n.length ≤ 1048576) : keyOf Tryz.prog 9 (.string ⟨n.toArray⟩) = some (.string n) := by
  have := Go.WideMaps.keyOf_string_mk (P := Tryz.prog) (k := 9) Tryz.underlying9 (s := ⟨n.toArray⟩) (by show n.toArray.size ≤ _; unfold maxLen; simp; omega)
  simpa using this
theorem zeroP (w : World) : (zeroValue 51).run Tryz.prog w = .ok (.pointer none) w := by kernel_rfl
theorem Mp.look {w : World} {mb : Option Nat} {k : Nat} {m : List UInt8 → Option Nat} (h : Mp w mb k m) {n : List UInt8} (hn : n.length ≤ 1048576) :
    (Instr.lookup 46 (.map mb) (.string ⟨n.toArray⟩) false).run Tryz.prog w = .ok (ptr (m n)) w := by
  rcases h with ⟨rfl, h⟩ | ⟨b, D, rfl, hown, hs⟩
  · have := Maps.look_nil (P := Tryz.prog) (w := w) (t := 46) false keyS Tryz.underlying46 (zeroP w) (keyN n hn)
    rw [h n]
    exact this
  · obtain ⟨v, ps, hrun, hv⟩ := hown.lookup (t := 46) keyS Tryz.underlying46 (zeroP w) (zd := .nil) (zp := []) rfl (keyN n hn)
    rw [hs.at_ n] at hv
    rw [hrun, ptrR_inv hv]
theorem Mp.keep {w w' : World} {mb : Option Nat} {k : Nat} {m : List UInt8 → Option Nat} (h : Mp w mb k m) (hk : ∀ b, mb = some b → w'.heap[b]? = w.heap[b]?) : Mp w' mb k m := by
  rcases h with h | ⟨b, D, hmb, hown, hs⟩
  · exact .inl h
  · obtain ⟨es, clock, hb, rest⟩ := hown
    exact .inr ⟨b, D, hmb, ⟨es, clock, (hk b hmb).trans hb, rest⟩, hs⟩
theorem Mp.mono {w : World} {mb : Option Nat} {k k' : Nat} {m : List UInt8 → Option Nat} (h : Mp w mb k m) (hk : k ≤ k') : Mp w mb k' m := by
  rcases h with h | ⟨b, D, hmb, hown, hs⟩
  · exact .inl h
  · exact .inr ⟨b, D, hmb, hown.mono hk, hs⟩
theorem Mp.congr {w : World} {mb : Option Nat} {k : Nat} {m m' : List UInt8 → Option Nat} (h : Mp w mb k m) (hm : ∀ n, m n = m' n) : Mp w mb k m' := by
  obtain rfl : m = m' := funext hm
  exact h
theorem Mp.lt {w : World} {mb : Option Nat} {k : Nat} {m : List UInt8 → Option Nat} (h : Mp w mb k m) {b : Nat} (hb : mb = some b) : b < w.heap.size ∧ ∃ es clock, w.heap[b]? = some (.map es clock) := by
  rcases h with ⟨h, _⟩ | ⟨b', D, hmb, hown, hs⟩
  · rw [h] at hb; cases hb
  · rw [hmb] at hb
    obtain rfl := Option.some.inj hb
    obtain ⟨es, clock, hh, _⟩ := id hown
    exact ⟨hown.lt, es, clock, hh⟩
theorem Mp.made (w : World) : Mp (w.alloc (.map #[] 0)) (some w.heap.size) 0 (fun _ => none) :=
  .inr ⟨_, _, rfl, World.ownsMap_made w _ _ _, fun _ => rfl, fun _ => rfl⟩
/-- Behind a store. -/
theorem Says.put {D : DataW Unit} {m : List UInt8 → Option Nat} (h : Says D m) (hD : Maps.IsMap D) (n : List UInt8) (id : Nat) : Says (D.put (.string n) (enc (some id))) (setM m n (some id)) := by
  refine ⟨fun x => ?_, fun x => ?_⟩
  · unfold setM
    by_cases e : x = n
    · subst e
      rw [if_pos rfl, Maps.atKey_put_same hD (show WideAt.IsKeyLit (.string x) from trivial)]
    · rw [if_neg e, Maps.atKey_put_other (show Lit.string x ≠ Lit.string n by simpa using e), h.at_ x]
  · unfold setM
    by_cases e : x = n
    · subst e
      rw [if_pos rfl, Maps.has_put_same hD (show WideAt.IsKeyLit (.string x) from trivial)]
      rfl
    · rw [if_neg e, Maps.has_put_other (show Lit.string x ≠ Lit.string n by simpa using e), h.has x]
/-- Behind a delete. -/
theorem Says.struck {D : DataW Unit} {m : List UInt8 → Option Nat} (h : Says D m) (n : List UInt8) : Says (D.del (.string n)) (setM m n none) := by
  refine ⟨fun x => ?_, fun x => ?_⟩
  · unfold setM
    by_cases e : x = n
    · subst e
      rw [if_pos rfl, Maps.atKey_del_same]
      rfl
    · rw [if_neg e, Maps.atKey_del_other (show Lit.string x ≠ Lit.string n by simpa using e), h.at_ x]
  · unfold setM
    by_cases e : x = n
    · subst e
      rw [if_pos rfl, Maps.has_del_same]
      rfl
    · rw [if_neg e, Maps.has_del_other (show Lit.string x ≠ Lit.string n by simpa using e), h.has x]
/-- A store, as a run. -/
theorem Mp.store {w : World} {b k : Nat} {m : List UInt8 → Option Nat} (h : Mp w (some b) k m) (hk : k < maxLen) {n : List UInt8} (hn : n.length ≤ 1048576) (id : Nat) :
    ∃ w', (Instr.mapUpdate 46 (.map (some b)) (.string ⟨n.toArray⟩) (.pointer (some ⟨id, 0, none⟩))).run Tryz.prog w = .ok () w' ∧ Mp w' (some b) (k + 1) (setM m n (some id)) ∧ w.mapTurned w' b := by
  rcases h with ⟨h, _⟩ | ⟨b', D, hmb, hown, hs⟩
  · cases h
  · obtain rfl := Option.some.inj hmb
    obtain ⟨w', hrun, h1, h2⟩ := hown.store (t := 46) keyS Tryz.underlying46 hk (keyN n hn) (show ptrR (.pointer (some ⟨id, 0, none⟩)) = some (enc (some id), []) from rfl)
    exact ⟨w', hrun, .inr ⟨b, _, rfl, h1, hs.put hown.isMap n id⟩, h2⟩
theorem Mp.drop {w : World} {b k : Nat} {m : List UInt8 → Option Nat} (h : Mp w (some b) k m) {n : List UInt8} (hn : n.length ≤ 1048576) (ty : TypeId) :
    ∃ w', (Builtin.delete_ #[46, 9] ty #[.map (some b), .string ⟨n.toArray⟩]).run Tryz.prog w = .ok (.tuple #[]) w' ∧ Mp w' (some b) k (setM m n none) ∧ w.mapTurned w' b := by
  rcases h with ⟨h, _⟩ | ⟨b', D, hmb, hown, hs⟩
  · cases h
  · obtain rfl := Option.some.inj hmb
    obtain ⟨w', hrun, h1, h2⟩ := hown.drop (t := 46) keyS Tryz.underlying46 (keyN n hn) ty
    exact ⟨w', hrun, .inr ⟨b, _, rfl, h1, hs.struck n⟩, h2⟩
/-- How many keys: none just if there is none. -/
theorem Mp.len {w : World} {mb : Option Nat} {k : Nat} {m : List UInt8 → Option Nat} (h : Mp w mb k m) :
    ∃ s : Nat, s ≤ k ∧ (∀ ty, (Builtin.len_ #[46] ty #[.map mb]).run Tryz.prog w = .ok (.int .i64 s) w) ∧ (s = 0 ↔ ∀ n, m n = none) := by
  rcases h with ⟨rfl, h⟩ | ⟨b, D, rfl, hown, hs⟩
  · exact ⟨0, Nat.zero_le _, fun ty => Maps.len_nil Tryz.underlying46 ty, fun _ => h, fun _ => rfl⟩
  · refine ⟨Maps.size D, hown.size_le, fun ty => hown.len Tryz.underlying46 ty, fun h0 n => ?_, fun h0 => ?_⟩
    · obtain ⟨es, rfl, _⟩ := hown.keysOf
      have : es = [] := List.eq_nil_of_length_eq_zero h0
      subst this
      have := hs.has n
      cases e : m n with
      | none => rfl
      | some c => rw [e] at this; cases this
    · obtain ⟨es, rfl, hk⟩ := hown.keysOf
      cases es with
      | nil => rfl
      | cons p r =>
        obtain ⟨v, hv⟩ := hk p (List.mem_cons_self ..)
        obtain ⟨x, _, hx, _⟩ := Maps.keyOf_str Tryz.underlying9 hv
        have := hs.has x
        rw [h0 x, Maps.has_eq, List.any_cons, hx] at this
        simp [Lit.sameKey] at this
/-- Being ranged over. -/
def Rgs (w : World) (mb : Option Nat) (r k : Nat) (m : List UInt8 → Option Nat) (left : List UInt8 → Bool) (cnt : Nat) : Prop :=
  (mb = none ∧ (∀ n, m n = none) ∧ (∀ n, left n = false) ∧ ∃ x y z, w.heap[r]? = some (.mapIter none x y z)) ∨
  ∃ b D lf, mb = some b ∧ Says D m ∧ w.ranges Tryz.prog 9 ptrR b r k D lf cnt ∧ ∀ n, left n = lf (.string n)
/-- How many are still to come. -/
def rgLeft (w : World) (mb : Option Nat) (r : Nat) : Nat := match mb with
  | none => 0
  | some b => w.rangeLeft b r
theorem Rgs.left_eq {w : World} {b r k : Nat} {m : List UInt8 → Option Nat} {left : List UInt8 → Bool} {cnt : Nat} (h : Rgs w (some b) r k m left cnt) : rgLeft w (some b) r = cnt := by
  rcases h with ⟨h, _⟩ | ⟨b', D, lf, hmb, hs, hr, hl⟩
  · cases h
  · obtain rfl := Option.some.inj hmb
    exact hr.left_eq
theorem Rgs.kept {w w' : World} {mb : Option Nat} {r k : Nat} {m : List UInt8 → Option Nat} {left : List UInt8 → Bool} {cnt : Nat} (h : Rgs w mb r k m left cnt) (h1 : w'.heap[r]? = w.heap[r]?) (h2 : ∀ b, mb = some b → w'.heap[b]? = w.heap[b]?) : Rgs w' mb r k m left cnt := by
  rcases h with ⟨h, hm, hl, x, y, z, hb⟩ | ⟨b, D, lf, hmb, hs, hr, hl⟩
  · exact .inl ⟨h, hm, hl, x, y, z, h1.trans hb⟩
  · obtain ⟨es, clock, since, seen, c0, hb, F, hes, hD, hri, rest⟩ := hr
    exact .inr ⟨b, D, lf, hmb, hs, ⟨es, clock, since, seen, c0, (h2 b hmb).trans hb, F, hes, hD, h1.trans hri, rest⟩, hl⟩
theorem Rgs.lt {w : World} {mb : Option Nat} {r k : Nat} {m : List UInt8 → Option Nat} {left : List UInt8 → Bool} {cnt : Nat} (h : Rgs w mb r k m left cnt) : r < w.heap.size ∧ ∃ x y z u, w.heap[r]? = some (.mapIter x y z u) := by
  rcases h with ⟨_, _, _, x, y, z, hb⟩ | ⟨b, D, lf, hmb, hs, hr, hl⟩
  · exact ⟨(Array.getElem?_eq_some_iff.1 hb).1, _, _, _, _, hb⟩
  · obtain ⟨es, clock, since, seen, c0, hb, F, hes, hD, hri, rest⟩ := hr
    exact ⟨(Array.getElem?_eq_some_iff.1 hri).1, _, _, _, _, hri⟩
theorem Rgs.mp {w : World} {mb : Option Nat} {r k : Nat} {m : List UInt8 → Option Nat} {left : List UInt8 → Bool} {cnt : Nat} (h : Rgs w mb r k m left cnt) : Mp w mb k m := by
  rcases h with ⟨h, hm, _⟩ | ⟨b, D, lf, hmb, hs, hr, hl⟩
  · exact .inl ⟨h, hm⟩
  · exact .inr ⟨b, D, hmb, hr.owns, hs⟩
theorem Mp.range {w : World} {mb : Option Nat} {k : Nat} {m : List UInt8 → Option Nat} (h : Mp w mb k m) :
    ∃ w' cnt, (Instr.range 46 (.map mb)).run Tryz.prog w = .ok (.pointer (some ⟨w.heap.size, 0, none⟩)) w' ∧ Rgs w' mb w.heap.size k m (fun n => (m n).isSome) cnt ∧ w.grownBy w' none ∧ w'.heap.size = w.heap.size + 1 := by
  rcases h with ⟨rfl, h⟩ | ⟨b, D, rfl, hown, hs⟩
  · exact ⟨_, 0, run_range_nilMap (P := Tryz.prog) w 46 9 51 Tryz.underlying46, .inl ⟨rfl, h, fun n => by show (m n).isSome = false; rw [h n]; rfl, _, _, _, heap_alloc_new w _⟩, World.grownBy_alloc w _ none, by simp⟩
  · obtain ⟨w', hrun, h1, h2, h3⟩ := hown.range keyS (t := 46) Tryz.underlying46
    exact ⟨w', _, hrun, .inr ⟨b, D, _, rfl, hs, h1, fun n => (hs.has n).symm⟩, h2, h3⟩
theorem Rgs.next {w : World} {mb : Option Nat} {r k : Nat} {m : List UInt8 → Option Nat} {left : List UInt8 → Bool} {cnt : Nat} (h : Rgs w mb r k m left cnt) (ty : TypeId) :
    ((∀ n, left n = false) ∧ (Instr.next (.pointer (some ⟨r, 0, none⟩)) false ty).run Tryz.prog w = .ok (.tuple #[.bool false]) w) ∨
    ∃ x c w' cnt', left x = true ∧ m x = some c ∧ (Instr.next (.pointer (some ⟨r, 0, none⟩)) false ty).run Tryz.prog w = .ok (.tuple #[.bool true, .string ⟨x.toArray⟩, .pointer (some ⟨c, 0, none⟩)]) w' ∧
      Rgs w' mb r k m (fun n => left n && decide (n ≠ x)) cnt' ∧ rgLeft w' mb r < rgLeft w mb r ∧ w.grownBy w' (some r) ∧ w'.heap.size = w.heap.size ∧
      (Instr.entry (.pointer (some ⟨r, 0, none⟩))).run Tryz.prog w' = .ok (.tuple #[.string ⟨x.toArray⟩, .pointer (some ⟨c, 0, none⟩)]) w' := by
  rcases h with ⟨h, hm, hl, x, y, z, hb⟩ | ⟨b, D, lf, rfl, hs, hr, hl⟩
  · refine .inl ⟨hl, ?_⟩
    simp only [Instr.next, getObj, Sem.run_bind, Sem.run, hb, Result.andThen]
    rfl
  · rcases hr.next keyS ty with ⟨h0, hl0, hrun⟩ | ⟨key, v, kl, y, w', cnt', hkey, hlk, hv, hat, hrun, hrg, hlt, hgr, hsz, hen⟩
    · exact .inl ⟨fun n => by rw [hl n]; exact hl0 _, hrun⟩
    · obtain ⟨x, ex, rfl, _⟩ := Maps.keyOf_str Tryz.underlying9 hkey
      obtain ⟨c, rfl, hy⟩ := ptr_of hv
      have e1 : enc (m x) = enc c := by rw [← hs.at_ x, hat .nil, hy]
      have e2 : m x = c := enc_inj e1
      have e3 := hs.has x
      rw [Maps.has_true_of_atKey hat] at e3
      cases c with
      | none => rw [e2] at e3; cases e3
      | some c =>
        subst ex
        refine .inr ⟨x, c, w', cnt', by rw [hl x]; exact hlk, e2, hrun, .inr ⟨b, D, _, rfl, hs, hrg, fun n => ?_⟩, ?_, hgr, hsz, hen⟩
        · have e3 : (!(Lit.string n).sameKey (.string x)) = decide (n ≠ x) := by
            by_cases e : n = x
            · subst e; simp [Lit.sameKey]
            · simp [Lit.sameKey, e]
          show (left n && decide (n ≠ x)) = (lf (.string n) && !(Lit.string n).sameKey (.string x))
          rw [hl n, e3]
        · show w'.rangeLeft b r < w.rangeLeft b r
          rw [hrg.left_eq, hr.left_eq]; exact hlt
end Tr

section
variable {w : World} {ops : Array Oper} {rest : List Oper} {o : Oper} {a : Act} {Q : Exit → Act → World → Prop}
theorem wpList_range_mp (hg : o.guard = none) (m : Operand) (hop : o.op = Op.range 46 m) (mb : Option Nat) (k : Nat) (mf : List UInt8 → Option Nat) (hm : a.eval m = .map mb) (h : Tr.Mp w mb k mf)
    (hK : ∀ w' cnt, Tr.Rgs w' mb w.heap.size k mf (fun n => (mf n).isSome) cnt → w.grownBy w' none → w'.heap.size = w.heap.size + 1 → wpList Tryz.prog ops Q rest (a.put o.dst (.pointer (some ⟨w.heap.size, 0, none⟩))) w') : wpList Tryz.prog ops Q (o :: rest) a w := by
  refine wpList_plain hg fun K' hK' => ?_
  obtain ⟨w', cnt, hrun, r1, r2, r3⟩ := h.range
  unfold Oper.wp
  simp [execOp, hop, hm, hrun, Result.andThen]
  exact hK' _ _ (hK w' cnt r1 r2 r3)
theorem wpList_next_mp (hg : o.guard = none) (it : Operand) (hop : o.op = Op.next it false) (mb : Option Nat) (r k : Nat) (mf : List UInt8 → Option Nat) (left : List UInt8 → Bool) (cnt : Nat) (hit : a.eval it = .pointer (some ⟨r, 0, none⟩)) (h : Tr.Rgs w mb r k mf left cnt)
    (hDone : (∀ n, left n = false) → wpList Tryz.prog ops Q rest (a.put o.dst (.tuple #[.bool false])) w)
    (hMore : ∀ x c w' cnt', left x = true → mf x = some c → Tr.Rgs w' mb r k mf (fun n => left n && decide (n ≠ x)) cnt' → Tr.rgLeft w' mb r < Tr.rgLeft w mb r → w.grownBy w' (some r) → w'.heap.size = w.heap.size →
      (Instr.entry (.pointer (some ⟨r, 0, none⟩))).run Tryz.prog w' = .ok (.tuple #[.string ⟨x.toArray⟩, .pointer (some ⟨c, 0, none⟩)]) w' → wpList Tryz.prog ops Q rest (a.put o.dst (.tuple #[.bool true, .string ⟨x.toArray⟩, .pointer (some ⟨c, 0, none⟩)])) w') :
    wpList Tryz.prog ops Q (o :: rest) a w := by
  refine wpList_plain hg fun K' hK' => ?_
  unfold Oper.wp
  rcases h.next o.type with ⟨hl, hrun⟩ | ⟨x, c, w', cnt', hlx, hmx, hrun, hrg, hlt, hgr, hsz, hen⟩
  · simp [execOp, hop, hit, hrun, Result.andThen]
    exact hK' _ _ (hDone hl)
  · simp [execOp, hop, hit, hrun, Result.andThen]
    exact hK' _ _ (hMore x c w' cnt' hlx hmx hrg hlt hgr hsz hen)
end
end Go.Proofs.YtfmbbhcjnidcbaaGreatDoor
