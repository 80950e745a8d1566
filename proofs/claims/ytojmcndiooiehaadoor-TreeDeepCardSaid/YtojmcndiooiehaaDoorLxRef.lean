/-
  CONTRACTS: chapter 14: the document's Lex.
-/
import Derived.Test.YtojmcndiooiehaaDoorLxLex
import Derived.Test.YtojmcndiooiehaaDoorLxRefW
namespace Go.Proofs.YtojmcndiooiehaaDoor
open Go.RowKit
open Me

namespace Lx
theorem idx_cons (q a : UInt8) (l : List UInt8) : idx q (a :: l) = if a = q then 0 else idx q l + 1 := by
  unfold idx
  rw [List.takeWhile_cons]
  by_cases h : a = q
  · subst h; simp
  · rw [if_pos (by simpa using h), if_neg h]; rfl
theorem ext_mid (s : List UInt8) (i k : Nat) : (⟨s.toArray⟩ : ByteArray).extract i k = ⟨((s.drop i).take (k - i)).toArray⟩ := by
  apply ByteArray.ext
  rw [ByteArray.data_extract]
  apply Array.toList_inj.1
  simp
/-- The document's Lex under way. -/
structure LxD (w wr : World) (s : List UInt8) (v : Value) (acc : List Tok) (i : Nat) : Prop where
  below : Below w.heap.size w wr
  own : OwnT 9 w.heap.size wr v acc
  eq : lex s = (lex (s.drop i)).map (acc ++ ·)
  cnt : acc.length ≤ i
theorem LxD.bad {w wr : World} {s : List UInt8} {v : Value} {acc : List Tok} {i : Nat} (h : LxD w wr s v acc i) {c : UInt8} (hc : s.drop i = c :: s.drop (i + 1)) (hb : blank c = false) (hk : token c (s.drop (i + 1)) = none) : lex s = none := by
  rw [h.eq, hc, lex_bad hb hk]; rfl
theorem LxD.blank {w wr : World} {s : List UInt8} {v : Value} {acc : List Tok} {i : Nat} (h : LxD w wr s v acc i) {c : UInt8} (hc : s.drop i = c :: s.drop (i + 1)) (hb : Lx.blank c = true) : LxD w wr s v acc (i + 1) :=
  ⟨h.below, h.own, by rw [h.eq, hc, lex_blank hb], by have := h.cnt; omega⟩
theorem LxD.more {w wr w2 : World} {s : List UInt8} {v v2 : Value} {acc : List Tok} {i : Nat} (h : LxD w wr s v acc i) {c : UInt8} {t : Tok} {n : Nat} (hc : s.drop i = c :: s.drop (i + 1)) (hb : Lx.blank c = false) (hk : token c (s.drop (i + 1)) = some (t, n)) (hb2 : Below w.heap.size w w2) (ho : OwnT 9 w.heap.size w2 v2 (acc ++ [t])) : LxD w w2 s v2 (acc ++ [t]) (i + 1 + n) :=
  ⟨hb2, ho, by
    rw [h.eq, hc, lex_tok hb hk, List.drop_drop]
    cases lex (s.drop (i + 1 + n)) with
    | none => rfl
    | some x => simp, by have := h.cnt; rw [List.length_append]; simp; omega⟩
theorem LxD.done {w wr : World} {s : List UInt8} {v : Value} {acc : List Tok} (h : LxD w wr s v acc s.length) : lex s = some acc := by
  rw [h.eq, List.drop_length, lex_nil]
  simp
end Lx

end Go.Proofs.YtojmcndiooiehaaDoor
