/-
  MEMORY: a map from texts to pointers, as a law for the walk.
-/
import Derived.Test.YtiacpopgnmledaaVpFill
import Derived.Maps.OwnSet
import Derived.Maps.OwnOps
import Derived.RegionTactic
namespace Go.Proofs.Ytiacpopgnmledaa
open Go.RowKit
open Me Vf
namespace Vp

/-- How a pointer to a block's head reads. -/
def ptrR : Value → Option (DataW Unit × List MemPlace)
  | .pointer none => some (.nil, [])
  | .pointer (some ⟨b, 0, none⟩) => some (.lit (.int .i64 (b : Int)), [])
  | _ => none
def enc : Option Nat → DataW Unit
  | none => .nil
  | some b => .lit (.int .i64 (b : Int))
def ptr : Option Nat → Value
  | none => .pointer none
  | some b => .pointer (some ⟨b, 0, none⟩)
theorem ptrR_inv {v : Value} {m : Option Nat} {ps : List MemPlace} (h : ptrR v = some (enc m, ps)) : v = ptr m := by
  unfold ptrR at h
  split at h
  · cases m with
    | none => rfl
    | some b => simp [enc] at h
  · cases m with
    | none => simp [enc] at h
    | some b =>
      simp [enc] at h
      have h1 := h.1
      show Value.pointer _ = Value.pointer _
      congr 3
      exact_mod_cast h1
  · cases h
/-- A map, nil or not, from texts to pointers. -/
def Mp (w : World) (mv : Value) (mb : Option Nat) (k : Nat) (m : List UInt8 → Option Nat) : Prop :=
  (mv = .map none ∧ mb = none ∧ ∀ n, m n = none) ∨
  ∃ b D, mv = .map (some b) ∧ mb = some b ∧ w.ownsMap Try.prog 9 ptrR b k D ∧ (∀ n, D.atKey (.string n) .nil = enc (m n)) ∧ ∀ n, Maps.has D (.string n) = (m n).isSome
theorem keyS : Maps.Keyed Try.prog 9 := Maps.string_keyed Try.underlying9
theorem keyN (n : List UInt8) (h : n.length ≤ 1048576) : keyOf Try.prog 9 (.string ⟨n.toArray⟩) = some (.string n) := by
  have := Go.WideMaps.keyOf_string_mk (P := Try.prog) (k := 9) Try.underlying9 (s := ⟨n.toArray⟩) (by show n.toArray.size ≤ _; unfold maxLen; simp; omega)
  simpa using this
theorem zeroP (w : World) : (zeroValue 71).run Try.prog w = .ok (.pointer none) w := by kernel_rfl
theorem Mp.look {w : World} {mv : Value} {mb : Option Nat} {k : Nat} {m : List UInt8 → Option Nat} (h : Mp w mv mb k m) {n : List UInt8} (hn : n.length ≤ 1048576) :
    (Instr.lookup 51 mv (.string ⟨n.toArray⟩) false).run Try.prog w = .ok (ptr (m n)) w := by
  rcases h with ⟨rfl, _, h⟩ | ⟨b, D, rfl, _, hown, hat, _⟩
  · have := Maps.look_nil (P := Try.prog) (w := w) (t := 51) false keyS Try.underlying51 (zeroP w) (keyN n hn)
    rw [h n]
    exact this
  · obtain ⟨v, ps, hrun, hv⟩ := hown.lookup (t := 51) keyS Try.underlying51 (zeroP w) (zd := .nil) (zp := []) rfl (keyN n hn)
    rw [hat n] at hv
    rw [hrun, ptrR_inv hv]
theorem Mp.keep {w w' : World} {mv : Value} {mb : Option Nat} {k : Nat} {m : List UInt8 → Option Nat} (h : Mp w mv mb k m) (hk : ∀ b, mb = some b → w'.heap[b]? = w.heap[b]?) : Mp w' mv mb k m := by
  rcases h with h | ⟨b, D, hmv, hmb, hown, h1, h2⟩
  · exact .inl h
  · obtain ⟨es, clock, hb, rest⟩ := hown
    exact .inr ⟨b, D, hmv, hmb, ⟨es, clock, (hk b hmb).trans hb, rest⟩, h1, h2⟩
theorem Mp.mono {w : World} {mv : Value} {mb : Option Nat} {k k' : Nat} {m : List UInt8 → Option Nat} (h : Mp w mv mb k m) (hk : k ≤ k') : Mp w mv mb k' m := by
  rcases h with h | ⟨b, D, hmv, hmb, hown, h1, h2⟩
  · exact .inl h
  · exact .inr ⟨b, D, hmv, hmb, hown.mono hk, h1, h2⟩
theorem Mp.lt {w : World} {mv : Value} {mb : Option Nat} {k : Nat} {m : List UInt8 → Option Nat} (h : Mp w mv mb k m) {b : Nat} (hb : mb = some b) : b < w.heap.size ∧ ∃ es clock, w.heap[b]? = some (.map es clock) := by
  rcases h with ⟨_, h, _⟩ | ⟨b', D, hmv, hmb, hown, h1, h2⟩
  · rw [h] at hb; cases hb
  · rw [hmb] at hb
    obtain rfl := Option.some.inj hb
    obtain ⟨es, clock, hh, _⟩ := id hown
    exact ⟨hown.lt, es, clock, hh⟩
/-- Behind a store. -/
theorem Mp.stored {w : World} {b k id : Nat} {D : DataW Unit} {m : List UInt8 → Option Nat} {n : List UInt8} (hown : w.ownsMap Try.prog 9 ptrR b (k + 1) (D.put (.string n) (enc (some id)))) (hD : Maps.IsMap D)
    (h1 : ∀ n, D.atKey (.string n) .nil = enc (m n)) (h2 : ∀ n, Maps.has D (.string n) = (m n).isSome) : Mp w (.map (some b)) (some b) (k + 1) (setM m n (some id)) := by
  refine .inr ⟨b, _, rfl, rfl, hown, fun x => ?_, fun x => ?_⟩
  · unfold setM
    by_cases e : x = n
    · subst e
      rw [if_pos rfl, Maps.atKey_put_same hD (show WideAt.IsKeyLit (.string x) from trivial)]
    · rw [if_neg e, Maps.atKey_put_other (show Lit.string x ≠ Lit.string n by simpa using e), h1 x]
  · unfold setM
    by_cases e : x = n
    · subst e
      rw [if_pos rfl, Maps.has_put_same hD (show WideAt.IsKeyLit (.string x) from trivial)]
      rfl
    · rw [if_neg e, Maps.has_put_other (show Lit.string x ≠ Lit.string n by simpa using e), h2 x]
/-- Behind a delete. -/
theorem Mp.struck {w : World} {b k : Nat} {D : DataW Unit} {m : List UInt8 → Option Nat} {n : List UInt8} (hown : w.ownsMap Try.prog 9 ptrR b k (D.del (.string n)))
    (h1 : ∀ n, D.atKey (.string n) .nil = enc (m n)) (h2 : ∀ n, Maps.has D (.string n) = (m n).isSome) : Mp w (.map (some b)) (some b) k (setM m n none) := by
  refine .inr ⟨b, _, rfl, rfl, hown, fun x => ?_, fun x => ?_⟩
  · unfold setM
    by_cases e : x = n
    · subst e
      rw [if_pos rfl, Maps.atKey_del_same]
      rfl
    · rw [if_neg e, Maps.atKey_del_other (show Lit.string x ≠ Lit.string n by simpa using e), h1 x]
  · unfold setM
    by_cases e : x = n
    · subst e
      rw [if_pos rfl, Maps.has_del_same]
      rfl
    · rw [if_neg e, Maps.has_del_other (show Lit.string x ≠ Lit.string n by simpa using e), h2 x]
end Vp
end Go.Proofs.Ytiacpopgnmledaa
