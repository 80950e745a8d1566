/-
  THE PLAIN MATHEMATICS of files: the document's own answers of chapter 3, over lists.
-/
import Derived.WalkKit
namespace Go.Proofs.Ytiacpopgnmledaa
namespace Vf

structure Fl where
  name : List UInt8
  b : List UInt8
structure Ac where
  kind : Int
  name : List UInt8
  off : Nat
  p : List UInt8
/-- Where a file stands; -1: nowhere. -/
def ixFrom (n : List UInt8) : Nat → List Fl → Int
  | _, [] => -1
  | k, f :: r => if f.name == n then (k : Int) else ixFrom n (k + 1) r
def ix (l : List Fl) (n : List UInt8) : Int := ixFrom n 0 l
theorem ixFrom_skip (n : List UInt8) : ∀ (l : List Fl) (k j : Nat), j ≤ l.length → (∀ i (h : i < l.length), i < j → (l[i].name == n) = false) → ixFrom n k l = ixFrom n (k + j) (l.drop j)
  | _, _, 0, _, _ => rfl
  | [], k, j + 1, h, _ => by simp at h
  | f :: r, k, j + 1, h, hn => by
    have h0 := hn 0 (by simp) (by omega)
    simp only [List.getElem_cons_zero] at h0
    rw [ixFrom, h0]
    simp only [Bool.false_eq_true, if_false]
    rw [ixFrom_skip n r (k + 1) j (by simpa using h) (fun i hi hj => by have := hn (i + 1) (by simpa using hi) (by omega); simpa using this), List.drop_succ_cons]
    congr 1
    omega
theorem ix_hit {l : List Fl} {n : List UInt8} {k : Nat} (hk : k < l.length) (hn : ∀ i (h : i < l.length), i < k → (l[i].name == n) = false) (h : (l[k].name == n) = true) : ix l n = k := by
  unfold ix
  rw [ixFrom_skip n l 0 k (by omega) hn, List.drop_eq_getElem_cons hk, ixFrom, h]
  simp
theorem ix_miss {l : List Fl} {n : List UInt8} (hn : ∀ i (h : i < l.length), i < l.length → (l[i].name == n) = false) : ix l n = -1 := by
  unfold ix
  rw [ixFrom_skip n l 0 l.length (Nat.le_refl _) hn, List.drop_length]
  rfl
theorem ixFrom_bd (n : List UInt8) : ∀ (l : List Fl) (k : Nat), ixFrom n k l = -1 ∨ ((k : Int) ≤ ixFrom n k l ∧ ixFrom n k l < (k : Int) + l.length)
  | [], _ => .inl rfl
  | f :: r, k => by
    rw [ixFrom]
    split
    · right; simp; omega
    · rcases ixFrom_bd n r (k + 1) with h | h
      · exact .inl h
      · right; simp at h ⊢; omega
theorem ix_bd (l : List Fl) (n : List UInt8) : -1 ≤ ix l n ∧ ix l n < l.length := by
  unfold ix
  rcases ixFrom_bd n l 0 with h | h
  · omega
  · simp at h; omega
/-- Bytes written over, from a place on. -/
def upd (b : List UInt8) (off : Nat) (p : List UInt8) : List UInt8 := b.take off ++ p ++ b.drop (off + p.length)
theorem upd_len {b : List UInt8} {off : Nat} {p : List UInt8} (h : off + p.length ≤ b.length) : (upd b off p).length = b.length := by
  unfold upd
  simp
  omega
/-- What becomes of the file at place k, where i is the place of the one that is meant. -/
def one (a : Ac) (i : Int) (k : Nat) (x : Fl) : List Fl :=
  if (k : Int) = i ∧ a.kind = 2 then [⟨x.name, upd x.b a.off a.p⟩] else if (k : Int) = i ∧ a.kind = 3 then [] else [x]
def goes (a : Ac) (i : Int) : Nat → List Fl → List Fl
  | _, [] => []
  | k, x :: r => one a i k x ++ goes a i (k + 1) r
def does (l : List Fl) (a : Ac) : List Fl := goes a (ix l a.name) 0 l ++ if a.kind = 1 then [⟨a.name, a.p⟩] else []
theorem goes_append (a : Ac) (i : Int) : ∀ (l m : List Fl) (k : Nat), goes a i k (l ++ m) = goes a i k l ++ goes a i (k + l.length) m
  | [], _, _ => rfl
  | x :: r, m, k => by
    rw [List.cons_append, goes, goes, goes_append a i r m (k + 1), List.append_assoc, List.length_cons]
    congr 3
    omega
theorem goes_take (a : Ac) (i : Int) (l : List Fl) (k : Nat) (h : k < l.length) : goes a i 0 (l.take (k + 1)) = goes a i 0 (l.take k) ++ one a i k l[k] := by
  rw [List.take_succ_eq_append_getElem h, goes_append]
  congr 1
  rw [List.length_take, Nat.zero_add, Nat.min_eq_left (by omega)]
  simp [goes]
theorem one_len (a : Ac) (i : Int) (k : Nat) (x : Fl) : (one a i k x).length ≤ 1 := by
  unfold one
  split
  · simp
  · split <;> simp
theorem goes_len (a : Ac) (i : Int) : ∀ (l : List Fl) (k : Nat), (goes a i k l).length ≤ l.length
  | [], _ => by simp [goes]
  | x :: r, k => by
    have h1 := one_len a i k x
    have h2 := goes_len a i r (k + 1)
    rw [goes, List.length_append, List.length_cons]
    omega
theorem does_len (l : List Fl) (a : Ac) : (does l a).length ≤ l.length + 1 := by
  have h := goes_len a (ix l a.name) l 0
  unfold does
  rw [List.length_append]
  split
  · simp; omega
  · simp; omega
end Vf
end Go.Proofs.Ytiacpopgnmledaa
