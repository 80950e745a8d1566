/-
  U8: What a byte is, in this translation.
  Me: MEMORY, for every seat: what stands of a world outside of a set of blocks; rows of cells that are read; lists of things, each of so many cells. No program is named here.
  VrPure: THE PLAIN MATHEMATICS of files: the document's own answers of chapter 3, over lists.
  VrRef: CONTRACTS: the document's own files (chapter 3): what is read.
  MeApp: append onto a row of the call's own, out of whatever slice is read (nil, empty or not): as a law for the walk.
  VrRows: CONTRACTS: the document's own files: rows of bytes as one; how much there is.
  VrDoes: CONTRACTS: the document's own files: what an act makes of them.
  VrFs: CONTRACTS: the document's own files as an object: what it tells.
  VrDo: CONTRACTS: the document's own files as an object: an act is done, and pending.
  VrTell: CONTRACTS: the document's own files as an object: sizes, what is pending, all synced; one that is new.
  VrActs: CONTRACTS: the document's own files as an object: Create and Remove.
  VrWrite: CONTRACTS: the document's own files as an object: WriteAt.
-/
import Derived.Test.YtbakngbmfgnmcaaDoorRows
import Derived.WalkKit
import Derived.Below
import Derived.Laws.OwnMore
import Derived.Laws.Rows
import Derived.Maps.AppendAt
import Derived.Deep.AppendLies
import Derived.Deep.Draws
import Derived.OwnWalk
import Derived.Lib.Hide
import Derived.WalkSpells
import Derived.WalkLawsBesides
import Derived.Deep.QuietTactic
import Derived.BigQuiet
import Derived.Lib.QuietBelow
import Derived.Lib.Strings
import Derived.Tactics
import Derived.Laws.CopyOwn
import Derived.Deep.RegionLaw
import Derived.Deep.RegionWith

namespace Go.Proofs.YtbakngbmfgnmcaaDoor
open Go.RowKit
theorem u8info : (Tryd.prog.info? 5).map (fun i => (i.zero, i.size, i.bytes)) = some (some (.int .u8 0), 1, 1) := by kernel_rfl
end Go.Proofs.YtbakngbmfgnmcaaDoor

namespace Go.Proofs.YtbakngbmfgnmcaaDoor
open Go.RowKit
namespace Me

/-- Outside of the set O all is as it was; blocks may have been laid. -/
structure Kp (O : Nat → Prop) (w w' : World) : Prop where
  os : w'.os = w.os
  tape : w'.tape = w.tape
  output : w'.output = w.output
  size : w.heap.size ≤ w'.heap.size
  block : ∀ k, k < w.heap.size → ¬ O k → w'.heap[k]? = w.heap[k]?

theorem Kp.refl (O : Nat → Prop) (w : World) : Kp O w w := ⟨rfl, rfl, rfl, Nat.le_refl _, fun _ _ _ => rfl⟩
theorem Kp.trans {O O' : Nat → Prop} {a b c : World} (h : Kp O a b) (k : Kp O' b c) (hO : ∀ i, i < a.heap.size → O' i → O i) : Kp O a c :=
  ⟨k.os.trans h.os, k.tape.trans h.tape, k.output.trans h.output, Nat.le_trans h.size k.size,
    fun i hi hn => (k.block i (Nat.lt_of_lt_of_le hi h.size) (fun x => hn (hO i hi x))).trans (h.block i hi hn)⟩
theorem Kp.mono {O O' : Nat → Prop} {a b : World} (h : Kp O a b) (hO : ∀ i, i < a.heap.size → O i → O' i) : Kp O' a b :=
  ⟨h.os, h.tape, h.output, h.size, fun i hi hn => h.block i hi (fun x => hn (hO i hi x))⟩
theorem Kp.of_below {O : Nat → Prop} {a b : World} (h : Below a.heap.size a b) : Kp O a b := ⟨h.os, h.tape, h.output, h.size, fun i hi _ => h.block i hi⟩
theorem Kp.below {O : Nat → Prop} {a b : World} {B : Nat} (h : Kp O a b) (hB : B ≤ a.heap.size) (hO : ∀ i, i < B → ¬ O i) : Below B a b :=
  ⟨h.os, h.tape, h.output, h.size, fun i hi => h.block i (Nat.lt_of_lt_of_le hi hB) (hO i hi)⟩
theorem Kp.alloc {O : Nat → Prop} {a w : World} (h : Kp O a w) (o : Obj) : Kp O a (w.alloc o) :=
  ⟨h.os, h.tape, h.output, Nat.le_trans h.size (by simp), fun i hi hn => (Below.heap_alloc w o i (Nat.lt_of_lt_of_le hi h.size)).trans (h.block i hi hn)⟩
theorem Kp.drew {O : Nat → Prop} {a w : World} (h : Kp O a w) : Kp O a w.drew := ⟨h.os, h.tape, h.output, h.size, h.block⟩
theorem Kp.drewN {O : Nat → Prop} {a w : World} (h : Kp O a w) (n : Nat) : Kp O a (w.drewN n) := ⟨h.os, h.tape, h.output, h.size, h.block⟩
theorem Kp.setCell {O : Nat → Prop} {a w : World} (h : Kp O a w) (p : Addr) (hp : a.heap.size ≤ p.block ∨ O p.block) (u : Value) : Kp O a (w.setCell p u) :=
  ⟨h.os, h.tape, h.output, by simpa [World.setCell] using h.size, fun i hi hn => (Below.heap_setCell w p u i (by
    rintro rfl
    rcases hp with hp | hp
    · omega
    · exact hn hp)).trans (h.block i hi hn)⟩
theorem Kp.grown {O : Nat → Prop} {a w w' : World} {row : Option Nat} (h : Kp O a w) (hg : w.grownBy w' row) (hr : ∀ g, row = some g → a.heap.size ≤ g ∨ O g) : Kp O a w' :=
  ⟨hg.os.trans h.os, hg.tape.trans h.tape, hg.output.trans h.output, Nat.le_trans h.size hg.size, fun i hi hn => (hg.block i (Nat.lt_of_lt_of_le hi h.size) (by
    intro e
    rcases hr i e.symm with h1 | h1
    · omega
    · exact hn h1)).trans (h.block i hi hn)⟩
theorem Kp.cell {O : Nat → Prop} {a w : World} (h : Kp O a w) {p : Addr} (hp : p.block < a.heap.size) (hO : ¬ O p.block) : w.cell? p = a.cell? p := World.cell?_of_block (h.block _ hp hO)
theorem Kp.frozen {O : Nat → Prop} {a w : World} (h : Kp O a w) {p : Addr} (hp : p.block < a.heap.size) (hO : ¬ O p.block) : w.frozen? p = a.frozen? p := World.frozen?_of_block (h.block _ hp hO)

theorem block_add (a : Addr) (n : Nat) : (a.add n).block = a.block := by unfold Addr.add; split <;> rfl
theorem add_add (a : Addr) (i j : Nat) : (a.add i).add j = a.add (i + j) := by
  unfold Addr.add
  by_cases hi : i = 0 <;> by_cases hj : j = 0 <;> simp [hi, hj, Nat.add_assoc]

/-- The cells at an address read as these values; the block is one of G. -/
def Rd (w : World) (G : Nat → Prop) (A : Option Addr) (xs : List Value) : Prop :=
  xs ≠ [] → ∃ ad, A = some ad ∧ ad.block < w.heap.size ∧ G ad.block ∧ ∀ j u, xs[j]? = some u → w.cell? (ad.add j) = some u
theorem Rd.none_ (w : World) (G : Nat → Prop) (A : Option Addr) : Rd w G A [] := fun h => absurd rfl h
theorem Rd.keep {w w' : World} {G : Nat → Prop} {A : Option Addr} {xs : List Value} (h : Rd w G A xs) (hs : w.heap.size ≤ w'.heap.size) (hk : ∀ i, i < w.heap.size → G i → w'.heap[i]? = w.heap[i]?) : Rd w' G A xs := fun hn => by
  obtain ⟨ad, e, hl, hg, hc⟩ := h hn
  refine ⟨ad, e, Nat.lt_of_lt_of_le hl hs, hg, fun j u hu => ?_⟩
  exact (World.cell?_of_block (w := w) (w' := w') (a := ad.add j) (by rw [block_add]; exact hk _ hl hg)).trans (hc j u hu)
theorem Rd.mono {w : World} {G G' : Nat → Prop} {A : Option Addr} {xs : List Value} (h : Rd w G A xs) (hG : ∀ i, i < w.heap.size → G i → G' i) : Rd w G' A xs := fun hn => by
  obtain ⟨ad, e, hl, hg, hc⟩ := h hn
  exact ⟨ad, e, hl, hG _ hl hg, hc⟩
theorem Rd.kp {w w' : World} {G O : Nat → Prop} {A : Option Addr} {xs : List Value} (h : Rd w G A xs) (k : Kp O w w') (hd : ∀ i, i < w.heap.size → G i → ¬ O i) : Rd w' G A xs :=
  h.keep k.size fun i hi hg => k.block i hi (hd i hi hg)
theorem Rd.below {w w' : World} {G : Nat → Prop} {A : Option Addr} {xs : List Value} (h : Rd w G A xs) (b : Below w.heap.size w w') : Rd w' G A xs :=
  h.keep b.size fun i hi _ => b.block i hi
theorem Rd.at_ {w : World} {G : Nat → Prop} {A : Option Addr} {xs : List Value} (h : Rd w G A xs) (k : Nat) (hk : k < xs.length) : ∃ ad, A = some ad ∧ ad.block < w.heap.size ∧ G ad.block ∧ ∀ j u, xs[j]? = some u → w.cell? (ad.add j) = some u :=
  h (by intro e; rw [e] at hk; cases hk)
/-- The address written out: a cell that is there has no inner spot. -/
theorem Rd.lit {w : World} {G : Nat → Prop} {A : Option Addr} {xs : List Value} (h : Rd w G A xs) (k : Nat) (hk : k < xs.length) : ∃ b o, A = some ⟨b, o, none⟩ ∧ b < w.heap.size ∧ G b ∧ ∀ j u, xs[j]? = some u → w.cell? ⟨b, o + j, none⟩ = some u := by
  obtain ⟨⟨b, o, s⟩, e, hl, hg, hc⟩ := h.at_ k hk
  have h0 := hc 0 _ (List.getElem?_eq_getElem (by omega : 0 < xs.length))
  have hs : s = none := by
    cases s with
    | none => rfl
    | some s =>
      exfalso
      have e0 : (⟨b, o, some s⟩ : Addr).add 0 = ⟨b, o, some s⟩ := by unfold Addr.add; simp
      rw [e0] at h0
      unfold World.cell? at h0
      split at h0 <;> simp at h0
  subst hs
  exact ⟨b, o, e, hl, hg, fun j u hu => by have := hc j u hu; rwa [Addr.add_lit] at this⟩
theorem Rd.sub {w : World} {G : Nat → Prop} {ad : Addr} {xs : List Value} (h : Rd w G (some ad) xs) (lo n : Nat) : Rd w G (some (ad.add lo)) ((xs.drop lo).take n) := fun hn => by
  have hx : xs ≠ [] := by rintro rfl; exact hn (by simp)
  obtain ⟨ad', e, hl, hg, hc⟩ := h hx
  obtain rfl := Option.some.inj e
  refine ⟨_, rfl, by rw [block_add]; exact hl, by rw [block_add]; exact hg, fun j u hu => ?_⟩
  rw [add_add]
  rw [List.getElem?_take] at hu
  split at hu
  · rw [List.getElem?_drop] at hu
    exact hc _ u hu
  · cases hu
theorem Rd.own {w : World} {base : Nat} {e : TypeId} {size n c : Nat} {A : Option Addr} {xs : List Value} (h : w.ownsRow base e size (.slice A n c) n xs) : Rd w (fun i => (Value.slice A n c).ownBlock = some i) A xs := fun hn => by
  rcases h.2 with ⟨hv, h0⟩ | ⟨g, cap, cur, hv, hb, hg, hnc, hcm, hcs, ht⟩
  · have hz : xs = [] := List.eq_nil_of_length_eq_zero (by rw [h.1, h0]; simp)
    exact absurd hz hn
  · injection hv with hv
    subst hv
    refine ⟨_, rfl, (Array.getElem?_eq_some_iff.1 hg).1, rfl, fun j u hu => ?_⟩
    have e1 : (⟨g, 0, none⟩ : Addr).add j = ⟨g, j, none⟩ := by unfold Addr.add; by_cases h0 : j = 0 <;> simp [h0]
    rw [e1, cell_of_row w g j cur e (0, 0) hg]
    rw [← ht] at hu
    rw [List.getElem?_take] at hu
    split at hu
    · simpa using hu
    · cases hu

/-! ## lists of things, each of some cells -/
def Els {α : Type} (E : α → List Value → Prop) : List α → List Value → Prop
  | [], xs => xs = []
  | a :: r, xs => ∃ cs rest, xs = cs ++ rest ∧ E a cs ∧ Els E r rest
theorem Els.mono {α : Type} {E E' : α → List Value → Prop} (h : ∀ a cs, E a cs → E' a cs) : ∀ {l : List α} {xs : List Value}, Els E l xs → Els E' l xs
  | [], _, hx => hx
  | _ :: _, _, ⟨cs, rest, e, ha, hr⟩ => ⟨cs, rest, e, h _ _ ha, hr.mono h⟩
theorem Els.append {α : Type} {E : α → List Value → Prop} : ∀ {l m : List α} {xs ys : List Value}, Els E l xs → Els E m ys → Els E (l ++ m) (xs ++ ys)
  | [], _, _, _, hx, hm => by subst hx; exact hm
  | _ :: _, _, _, _, ⟨cs, rest, e, ha, hr⟩, hm => ⟨cs, rest ++ _, by rw [e, List.append_assoc], ha, hr.append hm⟩
theorem Els.one {α : Type} {E : α → List Value → Prop} {a : α} {cs : List Value} (h : E a cs) : Els E [a] cs := ⟨cs, [], by simp, h, rfl⟩
theorem Els.length {α : Type} {E : α → List Value → Prop} {s : Nat} (hs : ∀ a cs, E a cs → cs.length = s) : ∀ {l : List α} {xs : List Value}, Els E l xs → xs.length = l.length * s
  | [], _, hx => by subst hx; simp
  | _ :: _, _, ⟨cs, rest, e, ha, hr⟩ => by rw [e, List.length_append, hs _ _ ha, hr.length hs, List.length_cons, Nat.add_mul]; omega
theorem Els.get {α : Type} {E : α → List Value → Prop} {s : Nat} (hs : ∀ a cs, E a cs → cs.length = s) : ∀ {l : List α} {xs : List Value} (_ : Els E l xs) (i : Nat) (hi : i < l.length), ∃ cs, E l[i] cs ∧ ∀ j, j < s → xs[i * s + j]? = cs[j]?
  | a :: r, _, ⟨cs, rest, e, ha, hr⟩, 0, _ => ⟨cs, ha, fun j hj => by rw [e, Nat.zero_mul, Nat.zero_add, List.getElem?_append_left (by rw [hs _ _ ha]; exact hj)]⟩
  | a :: r, _, ⟨cs, rest, e, ha, hr⟩, i + 1, hi => by
    obtain ⟨cs', h1, h2⟩ := hr.get hs i (by simpa using hi)
    refine ⟨cs', h1, fun j hj => ?_⟩
    have hl : (i + 1) * s + j = cs.length + (i * s + j) := by rw [hs _ _ ha, Nat.add_mul]; omega
    rw [e, hl, List.getElem?_append_right (by omega), Nat.add_sub_cancel_left]
    exact h2 j hj

/-- Bytes as cells. -/
def by8 (l : List UInt8) : List Value := l.map fun c => .int .u8 (c.toNat : Int)
theorem by8_len (l : List UInt8) : (by8 l).length = l.length := by unfold by8; simp
theorem by8_append (a b : List UInt8) : by8 (a ++ b) = by8 a ++ by8 b := by unfold by8; simp
theorem by8_get (l : List UInt8) (j : Nat) (h : j < l.length) : (by8 l)[j]? = some (.int .u8 (l[j].toNat : Int)) := by unfold by8; simp [h]
theorem by8_one (l : List UInt8) : ∀ u ∈ by8 l, u.oneCell' = true := by
  intro u hu
  unfold by8 at hu
  obtain ⟨c, _, rfl⟩ := List.mem_map.1 hu
  rfl
/-- A slice of bytes that reads as a list. -/
def Bs (w : World) (G : Nat → Prop) (v : Value) (l : List UInt8) : Prop := ∃ A c, v = .slice A l.length c ∧ l.length ≤ c ∧ c ≤ maxLen ∧ Rd w G A (by8 l)
theorem Bs.keep {w w' : World} {G : Nat → Prop} {v : Value} {l : List UInt8} (h : Bs w G v l) (hs : w.heap.size ≤ w'.heap.size) (hk : ∀ i, i < w.heap.size → G i → w'.heap[i]? = w.heap[i]?) : Bs w' G v l := by
  obtain ⟨A, c, e, h1, h2, h3⟩ := h
  exact ⟨A, c, e, h1, h2, h3.keep hs hk⟩
theorem Bs.mono {w : World} {G G' : Nat → Prop} {v : Value} {l : List UInt8} (h : Bs w G v l) (hG : ∀ i, i < w.heap.size → G i → G' i) : Bs w G' v l := by
  obtain ⟨A, c, e, h1, h2, h3⟩ := h
  exact ⟨A, c, e, h1, h2, h3.mono hG⟩
theorem Bs.below {w w' : World} {G : Nat → Prop} {v : Value} {l : List UInt8} (h : Bs w G v l) (b : Below w.heap.size w w') : Bs w' G v l := h.keep b.size fun i hi _ => b.block i hi
end Me
end Go.Proofs.YtbakngbmfgnmcaaDoor

namespace Go.Proofs.YtbakngbmfgnmcaaDoor
namespace Vf

structure Fl where
  name : List UInt8
  b : List UInt8
structure Ac where
  kind : Int
  name : List UInt8
  off : Nat
  p : List UInt8
/-- Where a file stands; -1: nowhere. -/
def ixFrom (n : List UInt8) : Nat → List Fl → Int
  | _, [] => -1
  | k, f :: r => if f.name == n then (k : Int) else ixFrom n (k + 1) r
def ix (l : List Fl) (n : List UInt8) : Int := ixFrom n 0 l
theorem ixFrom_skip (n : List UInt8) : ∀ (l : List Fl) (k j : Nat), j ≤ l.length → (∀ i (h : i < l.length), i < j → (l[i].name == n) = false) → ixFrom n k l = ixFrom n (k + j) (l.drop j)
  | _, _, 0, _, _ => rfl
  | [], k, j + 1, h, _ => by simp at h
  | f :: r, k, j + 1, h, hn => by
    have h0 := hn 0 (by simp) (by omega)
    simp only [List.getElem_cons_zero] at h0
    rw [ixFrom, h0]
    simp only [Bool.false_eq_true, if_false]
    rw [ixFrom_skip n r (k + 1) j (by simpa using h) (fun i hi hj => by have := hn (i + 1) (by simpa using hi) (by omega); simpa using this), List.drop_succ_cons]
    congr 1
    omega
theorem ix_hit {l : List Fl} {n : List UInt8} {k : Nat} (hk : k < l.length) (hn : ∀ i (h : i < l.length), i < k → (l[i].name == n) = false) (h : (l[k].name == n) = true) : ix l n = k := by
  unfold ix
  rw [ixFrom_skip n l 0 k (by omega) hn, List.drop_eq_getElem_cons hk, ixFrom, h]
  simp
theorem ix_miss {l : List Fl} {n : List UInt8} (hn : ∀ i (h : i < l.length), i < l.length → (l[i].name == n) = false) : ix l n = -1 := by
  unfold ix
  rw [ixFrom_skip n l 0 l.length (Nat.le_refl _) hn, List.drop_length]
  rfl
theorem ixFrom_bd (n : List UInt8) : ∀ (l : List Fl) (k : Nat), ixFrom n k l = -1 ∨ ((k : Int) ≤ ixFrom n k l ∧ ixFrom n k l < (k : Int) + l.length)
  | [], _ => .inl rfl
  | f :: r, k => by
    rw [ixFrom]
    split
    · right; simp; omega
    · rcases ixFrom_bd n r (k + 1) with h | h
      · exact .inl h
      · right; simp at h ⊢; omega
theorem ix_bd (l : List Fl) (n : List UInt8) : -1 ≤ ix l n ∧ ix l n < l.length := by
  unfold ix
  rcases ixFrom_bd n l 0 with h | h
  · omega
  · simp at h; omega
/-- Bytes written over, from a place on. -/
def upd (b : List UInt8) (off : Nat) (p : List UInt8) : List UInt8 := b.take off ++ p ++ b.drop (off + p.length)
theorem upd_len {b : List UInt8} {off : Nat} {p : List UInt8} (h : off + p.length ≤ b.length) : (upd b off p).length = b.length := by
  unfold upd
  simp
  omega
/-- What becomes of the file at place k, where i is the place of the one that is meant. -/
def one (a : Ac) (i : Int) (k : Nat) (x : Fl) : List Fl :=
  if (k : Int) = i ∧ a.kind = 2 then [⟨x.name, upd x.b a.off a.p⟩] else if (k : Int) = i ∧ a.kind = 3 then [] else [x]
def goes (a : Ac) (i : Int) : Nat → List Fl → List Fl
  | _, [] => []
  | k, x :: r => one a i k x ++ goes a i (k + 1) r
def does (l : List Fl) (a : Ac) : List Fl := goes a (ix l a.name) 0 l ++ if a.kind = 1 then [⟨a.name, a.p⟩] else []
theorem goes_append (a : Ac) (i : Int) : ∀ (l m : List Fl) (k : Nat), goes a i k (l ++ m) = goes a i k l ++ goes a i (k + l.length) m
  | [], _, _ => rfl
  | x :: r, m, k => by
    rw [List.cons_append, goes, goes, goes_append a i r m (k + 1), List.append_assoc, List.length_cons]
    congr 3
    omega
theorem goes_take (a : Ac) (i : Int) (l : List Fl) (k : Nat) (h : k < l.length) : goes a i 0 (l.take (k + 1)) = goes a i 0 (l.take k) ++ one a i k l[k] := by
  rw [List.take_succ_eq_append_getElem h, goes_append]
  congr 1
  rw [List.length_take, Nat.zero_add, Nat.min_eq_left (by omega)]
  simp [goes]
theorem one_len (a : Ac) (i : Int) (k : Nat) (x : Fl) : (one a i k x).length ≤ 1 := by
  unfold one
  split
  · simp
  · split <;> simp
theorem goes_len (a : Ac) (i : Int) : ∀ (l : List Fl) (k : Nat), (goes a i k l).length ≤ l.length
  | [], _ => by simp [goes]
  | x :: r, k => by
    have h1 := one_len a i k x
    have h2 := goes_len a i r (k + 1)
    rw [goes, List.length_append, List.length_cons]
    omega
theorem does_len (l : List Fl) (a : Ac) : (does l a).length ≤ l.length + 1 := by
  have h := goes_len a (ix l a.name) l 0
  unfold does
  rw [List.length_append]
  split
  · simp; omega
  · simp; omega
end Vf
end Go.Proofs.YtbakngbmfgnmcaaDoor

namespace Go.Proofs.YtbakngbmfgnmcaaDoor
open Go.RowKit
open Me

theorem ret_i64 {a b : Int} (h : a = b) : Ending.returned (.int .i64 a) = .returned (.int .i64 b) := by rw [h]
theorem ret_bool {a b : Bool} (h : a = b) : Ending.returned (.bool a) = .returned (.bool b) := by rw [h]

namespace Vf
def FlC (w : World) (G : Nat → Prop) (f : Fl) (cs : List Value) : Prop := ∃ v, cs = [.string ⟨f.name.toArray⟩, v] ∧ Bs w G v f.b
theorem FlC.two {w : World} {G : Nat → Prop} : ∀ f cs, FlC w G f cs → cs.length = 2 := by
  rintro f cs ⟨v, rfl, _⟩; rfl
/-- A slice of files that reads as a list. -/
def Fs (w : World) (G : Nat → Prop) (v : Value) (l : List Fl) : Prop := ∃ A c xs, v = .slice A l.length c ∧ l.length ≤ c ∧ c ≤ maxLen ∧ Rd w G A xs ∧ Els (FlC w G) l xs
def is (n : List UInt8) : Bool := decide (1 ≤ n.length ∧ n.length ≤ 255)
end Vf

end Go.Proofs.YtbakngbmfgnmcaaDoor

namespace Go.Proofs.YtbakngbmfgnmcaaDoor
open Go.RowKit
namespace Me
section
variable {P : Program} (w : World)

theorem run_app (base : Nat) (t ty e : TypeId) (i : TypeInfo) (z : Value) (size bytes : Nat) (ht : P.underlying t = some (.slice e)) (hi : P.info? e = some i) (hz : i.zero = some z)
    (hsize : i.size = size) (hby : i.bytes = bytes) (hzs : z.cells.size = size) (hsz : 0 < size)
    (v : Value) (n : Nat) (xs : List Value) (hown : w.ownsRow base e size v n xs)
    (G : Nat → Prop) (A : Option Addr) (m c : Nat) (news : List Value) (hl : news.length = m * size) (hr : Rd w G A news) (h1 : ∀ u ∈ news, u.oneCell' = true)
    (h63 : n + m ≤ maxLen) (hbytes : (n + m) * bytes ≤ 140737488355328) (hbase : base ≤ w.heap.size) :
    ∃ v' w', (Builtin.append_ #[t, t] ty #[v, .slice A m c]).run P w = .ok v' w' ∧ w'.ownsRow base e size v' (n + m) (xs ++ news) ∧ w.grownBy w' v.ownBlock ∧
      (v'.ownBlock = v.ownBlock ∨ v'.ownBlock = some w.heap.size) ∧ (v' = .slice none 0 0 → v = .slice none 0 0) := by
  by_cases hn : news = []
  · subst hn
    have hm : m = 0 := by
      rcases Nat.eq_zero_or_pos m with h | h
      · exact h
      · have := Nat.mul_pos h hsz; simp at hl; omega
    subst hm
    cases A with
    | none =>
      refine ⟨v, w, ?_, by simpa using hown, World.grownBy.refl w _, .inl rfl, id⟩
      rcases hown.2 with ⟨rfl, rfl⟩ | ⟨g, cap, cur, rfl, _, _, hnc, _⟩
      · simp [Builtin.append_, run_underlying ht, sizeOf, typeInfo, hi, Builtin.lenOf, Builtin.firstCells]
      · simp [Builtin.append_, run_underlying ht, sizeOf, typeInfo, hi, Builtin.lenOf, Builtin.firstCells, hnc, storeCells]
    | some ad =>
      obtain ⟨v', w', hrun, h2, h3, h4, h5⟩ := run_append_own_at (P := P) w base t ty e i z size bytes ht hi hz hsize hby hzs hsz v n xs hown ad 0 c [] (by simp) (fun j u hu => by simp at hu) (fun u hu => by cases hu) (by omega) (by simpa using hbytes) hbase
      exact ⟨v', w', hrun, h2, h3, h5, fun e => (h4.1 e).1⟩
  · obtain ⟨ad, rfl, _, _, hc⟩ := hr hn
    obtain ⟨v', w', hrun, h2, h3, h4, h5⟩ := run_append_own_at (P := P) w base t ty e i z size bytes ht hi hz hsize hby hzs hsz v n xs hown ad m c news hl hc h1 h63 hbytes hbase
    exact ⟨v', w', hrun, h2, h3, h5, fun e => (h4.1 e).1⟩

theorem wp_app {o : Oper} {a : Act} {K : Act → World → Prop} {Q : Exit → Act → World → Prop} (s x : Operand) (t : TypeId)
    (ho : o.op = .call { callee := .builtin .append, args := #[s, x], argTypes := #[t, t] })
    (base : Nat) (e : TypeId) (i : TypeInfo) (z : Value) (size bytes : Nat) (ht : P.underlying t = some (.slice e)) (hi : P.info? e = some i) (hz : i.zero = some z)
    (hsize : i.size = size) (hby : i.bytes = bytes) (hzs : z.cells.size = size) (hsz : 0 < size)
    (v : Value) (n : Nat) (xs : List Value) (hs : a.eval s = v) (hown : w.ownsRow base e size v n xs)
    (G : Nat → Prop) (A : Option Addr) (m c : Nat) (news : List Value) (hx : a.eval x = .slice A m c) (hl : news.length = m * size) (hr : Rd w G A news) (h1 : ∀ u ∈ news, u.oneCell' = true)
    (h63 : n + m ≤ maxLen) (hbytes : (n + m) * bytes ≤ 140737488355328) (hbase : base ≤ w.heap.size)
    (h : ∀ v' w', w'.ownsRow base e size v' (n + m) (xs ++ news) → w.grownBy w' v.ownBlock → (v'.ownBlock = v.ownBlock ∨ v'.ownBlock = some w.heap.size) → (v' = .slice none 0 0 → v = .slice none 0 0) → K (a.put o.dst v') w') : o.wp P a w K Q := by
  obtain ⟨v', w', hrun, h2, h3, h4, h5⟩ := run_app (P := P) w base t o.type e i z size bytes ht hi hz hsize hby hzs hsz v n xs hown G A m c news hl hr h1 h63 hbytes hbase
  unfold Oper.wp execOp
  simp only [ho, resolve, invoke, builtin, Sem.run_bind, Sem.run_pure, Result.andThen_ok, List.map_toArray, List.map_cons, List.map_nil, hs, hx, hrun]
  exact h v' w' h2 h3 h4 h5

theorem wpList_app {ops : Array Oper} {rest : List Oper} {o : Oper} {a : Act} {Q : Exit → Act → World → Prop} (hgd : o.guard = none) (s x : Operand) (t : TypeId)
    (ho : o.op = .call { callee := .builtin .append, args := #[s, x], argTypes := #[t, t] })
    (base : Nat) (e : TypeId) (i : TypeInfo) (z : Value) (size bytes : Nat) (ht : P.underlying t = some (.slice e)) (hi : P.info? e = some i) (hz : i.zero = some z)
    (hsize : i.size = size) (hby : i.bytes = bytes) (hzs : z.cells.size = size) (hsz : 0 < size)
    (v : Value) (n : Nat) (xs : List Value) (hs : a.eval s = v) (hown : w.ownsRow base e size v n xs)
    (G : Nat → Prop) (A : Option Addr) (m c : Nat) (news : List Value) (hx : a.eval x = .slice A m c) (hl : news.length = m * size) (hr : Rd w G A news) (h1 : ∀ u ∈ news, u.oneCell' = true)
    (h63 : n + m ≤ maxLen) (hbytes : (n + m) * bytes ≤ 140737488355328) (hbase : base ≤ w.heap.size)
    (h : ∀ v' w', w'.ownsRow base e size v' (n + m) (xs ++ news) → w.grownBy w' v.ownBlock → (v'.ownBlock = v.ownBlock ∨ v'.ownBlock = some w.heap.size) → (v' = .slice none 0 0 → v = .slice none 0 0) → wpList P ops Q rest (a.put o.dst v') w') : wpList P ops Q (o :: rest) a w :=
  wpList_plain hgd fun _ hK => wp_app w s x t ho base e i z size bytes ht hi hz hsize hby hzs hsz v n xs hs hown G A m c news hx hl hr h1 h63 hbytes hbase fun v' w' h2 h3 h4 h5 => hK _ _ (h v' w' h2 h3 h4 h5)

/-- The same in a region that draws its order. -/
theorem step_app {ops : Array Oper} {o : Oper} {a : Act} {K : Act → World → Prop} {Q : Exit → Act → World → Prop} {E : Prop} (hgd : o.guard = none) (s x : Operand) (t : TypeId)
    (ho : o.op = .call { callee := .builtin .append, args := #[s, x], argTypes := #[t, t] })
    (base : Nat) (e : TypeId) (i : TypeInfo) (z : Value) (size bytes : Nat) (ht : P.underlying t = some (.slice e)) (hi : P.info? e = some i) (hz : i.zero = some z)
    (hsize : i.size = size) (hby : i.bytes = bytes) (hzs : z.cells.size = size) (hsz : 0 < size)
    (v : Value) (n : Nat) (xs : List Value) (hs : a.eval s = v) (hown : w.ownsRow base e size v n xs)
    (G : Nat → Prop) (A : Option Addr) (m c : Nat) (news : List Value) (hx : a.eval x = .slice A m c) (hl : news.length = m * size) (hr : Rd w G A news) (h1 : ∀ u ∈ news, u.oneCell' = true)
    (h63 : n + m ≤ maxLen) (hbytes : (n + m) * bytes ≤ 140737488355328) (hbase : base ≤ w.heap.size)
    (h : ∀ v' w', w'.ownsRow base e size v' (n + m) (xs ++ news) → w.grownBy w' v.ownBlock → (v'.ownBlock = v.ownBlock ∨ v'.ownBlock = some w.heap.size) → (v' = .slice none 0 0 → v = .slice none 0 0) → K (a.put o.dst v') w') :
    if Region.wanted o (yielded ops a.tmps) = true then Oper.wp P o a w K Q else E := by
  have hw : Region.wanted o (yielded ops a.tmps) = true := by simp [Region.wanted, hgd]
  rw [if_pos hw]
  exact wp_app w s x t ho base e i z size bytes ht hi hz hsize hby hzs hsz v n xs hs hown G A m c news hx hl hr h1 h63 hbytes hbase h
end

theorem owns_keep {w w' : World} {base : Nat} {e : TypeId} {size n : Nat} {v : Value} {xs : List Value} (h : w.ownsRow base e size v n xs) (hk : ∀ g, v.ownBlock = some g → w'.heap[g]? = w.heap[g]?) : w'.ownsRow base e size v n xs := by
  refine ⟨h.1, ?_⟩
  rcases h.2 with hn | ⟨g, cap, cur, rfl, hb, hg, rest⟩
  · exact .inl hn
  · exact .inr ⟨g, cap, cur, rfl, hb, (hk g rfl).trans hg, rest⟩
/-- A block that was just laid reads as its cells. -/
theorem Rd.fresh (W : World) (cs : List Value) (t : TypeId) (n : Nat) (hn : n = W.heap.size) : Rd (W.alloc (.cells cs.toArray t)) (fun b => b = n) (some ⟨n, 0, none⟩) cs := fun _ => by
  subst hn
  refine ⟨_, rfl, by simp, rfl, fun j u hu => ?_⟩
  rw [Addr.add_lit, Nat.zero_add, World.cell?_alloc_new]
  simpa using hu
/-- A slice of one's own, as bytes. -/
theorem Bs.own {w : World} {base : Nat} {e : TypeId} {v : Value} {l : List UInt8} (h : w.ownsRow base e 1 v l.length (by8 l)) : Bs w (fun i => base ≤ i) v l := by
  rcases h.2 with ⟨hv, h0⟩ | ⟨g, cap, cur, hv, hb, hg, hnc, hcm, hcs, ht⟩
  · have hz : l = [] := List.eq_nil_of_length_eq_zero h0
    subst hz
    exact ⟨none, 0, hv, Nat.le_refl _, Nat.zero_le _, Rd.none_ _ _ _⟩
  · refine ⟨some ⟨g, 0, none⟩, cap, hv, hnc, hcm, ?_⟩
    rw [hv] at h
    refine (Rd.own h).mono fun i _ hi => ?_
    have : g = i := by simpa [Value.ownBlock] using hi
    omega
end Me
theorem own_slice {base : Nat} {w : World} {v : Value} {e : TypeId} {s n : Nat} {xs : List Value} (h : w.ownsRow base e s v n xs) : ∃ A n c, v = .slice A n c := by
  rcases h.2 with ⟨rfl, _⟩ | ⟨g', cap, cur, rfl, _⟩
  · exact ⟨_, _, _, rfl⟩
  · exact ⟨_, _, _, rfl⟩
theorem lowBox' {w W : World} {o : Obj} (h : Below (w.heap.size + 1) (w.alloc o) W) : Below w.heap.size w W := ((Below.refl _ _).alloc (Nat.le_refl _) _).trans (h.mono (Nat.le_succ _))
end Go.Proofs.YtbakngbmfgnmcaaDoor

namespace Go.Proofs.YtbakngbmfgnmcaaDoor
open Go.RowKit
open Me

namespace Vf
def BsC (w : World) (G : Nat → Prop) (b : List UInt8) (cs : List Value) : Prop := ∃ v, cs = [v] ∧ Bs w G v b
theorem BsC.one {w : World} {G : Nat → Prop} : ∀ b cs, BsC w G b cs → cs.length = 1 := by
  rintro b cs ⟨v, rfl, _⟩; rfl
/-- A slice of slices of bytes. -/
def Ps (w : World) (G : Nat → Prop) (v : Value) (l : List (List UInt8)) : Prop := ∃ A c xs, v = .slice A l.length c ∧ l.length ≤ c ∧ c ≤ maxLen ∧ Rd w G A xs ∧ Els (BsC w G) l xs
theorem BsC.keep {w w' : World} {G : Nat → Prop} (hs : w.heap.size ≤ w'.heap.size) (hk : ∀ i, i < w.heap.size → G i → w'.heap[i]? = w.heap[i]?) (b : List UInt8) (cs : List Value) (h : BsC w G b cs) : BsC w' G b cs := by
  obtain ⟨v, e, hb⟩ := h
  exact ⟨v, e, hb.keep hs hk⟩
theorem Ps.keep {w w' : World} {G : Nat → Prop} {v : Value} {l : List (List UInt8)} (h : Ps w G v l) (hs : w.heap.size ≤ w'.heap.size) (hk : ∀ i, i < w.heap.size → G i → w'.heap[i]? = w.heap[i]?) : Ps w' G v l := by
  obtain ⟨A, c, xs, e, h1, h2, h3, h4⟩ := h
  exact ⟨A, c, xs, e, h1, h2, h3.keep hs hk, h4.mono fun b cs hb => hb.keep hs hk⟩
theorem flat_take (l : List (List UInt8)) (k : Nat) (h : k < l.length) : (l.take (k + 1)).flatten = (l.take k).flatten ++ l[k] := by
  rw [List.take_succ_eq_append_getElem h, List.flatten_append]
  simp
theorem flat_le (l : List (List UInt8)) (k : Nat) : (l.take k).flatten.length ≤ l.flatten.length := by
  conv => rhs; rw [← List.take_append_drop k l]
  rw [List.flatten_append, List.length_append]
  omega
/-- What a function that makes bytes hands back. -/
def Made (w : World) (l : List UInt8) (e : Ending) (w' : World) : Prop := ∃ v, e = .returned v ∧ Bs w' (fun i => w.heap.size ≤ i) v l ∧ Below w.heap.size w w'
end Vf

end Go.Proofs.YtbakngbmfgnmcaaDoor

namespace Go.Proofs.YtbakngbmfgnmcaaDoor
open Go.RowKit
open Me

namespace Vf
theorem FlC.keep {w w' : World} {G : Nat → Prop} (hs : w.heap.size ≤ w'.heap.size) (hk : ∀ i, i < w.heap.size → G i → w'.heap[i]? = w.heap[i]?) (f : Fl) (cs : List Value) (h : FlC w G f cs) : FlC w' G f cs := by
  obtain ⟨v, e, hb⟩ := h
  exact ⟨v, e, hb.keep hs hk⟩
theorem FlC.wide {w : World} {G G' : Nat → Prop} (hG : ∀ i, i < w.heap.size → G i → G' i) (f : Fl) (cs : List Value) (h : FlC w G f cs) : FlC w G' f cs := by
  obtain ⟨v, e, hb⟩ := h
  exact ⟨v, e, hb.mono hG⟩
theorem FlC.cellOne {w : World} {G : Nat → Prop} {f : Fl} {cs : List Value} (h : FlC w G f cs) : ∀ u ∈ cs, u.oneCell' = true := by
  obtain ⟨v, rfl, A, c, rfl, _⟩ := h
  intro u hu
  simp at hu
  rcases hu with rfl | rfl <;> rfl
/-- What a function that makes files hands back: old bytes of G, or new blocks. -/
def MadeF (G : Nat → Prop) (w : World) (l : List Fl) (e : Ending) (w' : World) : Prop := ∃ v, e = .returned v ∧ Fs w' (fun i => G i ∨ w.heap.size ≤ i) v l ∧ Below w.heap.size w w'
/-- An act as its cells. -/
def AcC (w : World) (G : Nat → Prop) (a : Ac) (cs : List Value) : Prop := ∃ v, cs = [.int .i64 a.kind, .string ⟨a.name.toArray⟩, .int .i64 (a.off : Int), v] ∧ Bs w G v a.p
/-- May it be done: what is written lies within the file. -/
def fits (l : List Fl) (a : Ac) : Prop := a.kind = 2 → ∀ (k : Nat) (h : k < l.length), (k : Int) = ix l a.name → a.off + a.p.length ≤ l[k].b.length
/-- The slice of one's own, as files. -/
theorem Fs.own {w : World} {base : Nat} {e : TypeId} {v : Value} {l : List Fl} {xs : List Value} {G : Nat → Prop} (h : w.ownsRow base e 2 v l.length xs) (hG : ∀ i, base ≤ i → G i) (hE : Els (FlC w G) l xs) : Fs w G v l := by
  have h0 := h
  rcases h.2 with ⟨hv, hz⟩ | ⟨g, cap, cur, hv, hb, hg, hnc, hcm, hcs, ht⟩
  · have hl : l = [] := List.eq_nil_of_length_eq_zero hz
    subst hl
    exact ⟨none, 0, xs, hv, Nat.le_refl _, Nat.zero_le _, by rw [show xs = [] from hE]; exact Rd.none_ _ _ _, hE⟩
  · refine ⟨some ⟨g, 0, none⟩, cap, xs, hv, hnc, hcm, ?_, hE⟩
    rw [hv] at h0
    refine (Rd.own h0).mono fun i _ hi => ?_
    have : g = i := by simpa [Value.ownBlock] using hi
    exact hG i (by omega)
end Vf

/-- One file more, in a row of the call's own, beside bytes in the blocks of J. -/
theorem rel_next {wr W w1 : World} {mv v1 : Value} {B0 : Nat} {ys cs : List Value} {gs : List Vf.Fl} {f : Vf.Fl} {G I J : Nat → Prop}
    (hrow : ∀ g, mv.ownBlock = some g → ¬ I g) (hys : Els (Vf.FlC wr I) gs ys)
    (hWs : wr.heap.size ≤ W.heap.size) (hW : ∀ b, b < wr.heap.size → mv.ownBlock ≠ some b → W.heap[b]? = wr.heap[b]?)
    (hg1 : W.grownBy w1 mv.ownBlock) (hat1 : v1.ownBlock = mv.ownBlock ∨ v1.ownBlock = some W.heap.size)
    (hJ : ∀ b, J b → b < W.heap.size ∧ (G b ∨ B0 ≤ b)) (hJrow : ∀ g, mv.ownBlock = some g → ¬ J g) (hIJ : ∀ b, I b → J b) (hf : Vf.FlC W J f cs) :
    Els (Vf.FlC w1 J) (gs ++ [f]) (ys ++ cs) ∧ (∀ b, J b → b < w1.heap.size ∧ (G b ∨ B0 ≤ b)) ∧ (∀ g, v1.ownBlock = some g → ¬ J g) := by
  have k2 : ∀ i, i < W.heap.size → J i → w1.heap[i]? = W.heap[i]? := fun i hi hj => hg1.block i hi (fun e => hJrow i e.symm hj)
  refine ⟨Els.append (hys.mono fun f cs h => ?_) (Els.one (hf.keep hg1.size k2)), fun b hb => ⟨Nat.lt_of_lt_of_le (hJ b hb).1 hg1.size, (hJ b hb).2⟩, fun g hg hj => ?_⟩
  · have h1 := h.keep (w' := W) hWs (fun i hi hii => hW i hi (fun e => hrow i e hii))
    exact (h1.wide (fun i _ hii => hIJ i hii)).keep hg1.size k2
  · rcases hat1 with e | e
    · exact hJrow g (e ▸ hg) hj
    · rw [e] at hg
      have := (hJ g hj).1
      have := Option.some.inj hg
      omega

theorem splice_take {α : Type} {L cs : List α} {off n : Nat} (h : off + cs.length ≤ n) (hn : n ≤ L.length) : (splice L off cs).take n = (L.take n).take off ++ (cs ++ (L.take n).drop (off + cs.length)) := by
  unfold splice
  have e1 : (L.take off).take n = L.take off := List.take_of_length_le (by rw [List.length_take]; omega)
  have e0 : (L.take off).length = off := by rw [List.length_take]; omega
  have e2 : cs.take (n - off) = cs := List.take_of_length_le (by omega)
  rw [List.take_append, e1, e0, List.take_append, e2, List.take_take, Nat.min_eq_left (by omega), List.drop_take]
  congr 3
  omega
theorem by8_take (l : List UInt8) (k : Nat) : (by8 l).take k = by8 (l.take k) := by unfold by8; simp
theorem by8_drop (l : List UInt8) (k : Nat) : (by8 l).drop k = by8 (l.drop k) := by unfold by8; simp
theorem bytes_spliced {W : World} {g cap off : Nat} {e : TypeId} {L : List Value} {b p : List UInt8} (hh : W.heap[g]? = some (.cells (splice L off (by8 p)).toArray e (0, 0))) (htk : L.take b.length = by8 b)
    (hL : b.length ≤ L.length) (hoff : off + p.length ≤ b.length) (hc : b.length ≤ cap) (hcm : cap ≤ maxLen) : Bs W (fun i => i = g) (.slice (some ⟨g, 0, none⟩) b.length cap) (Vf.upd b off p) := by
  have hl := Vf.upd_len hoff
  refine ⟨some ⟨g, 0, none⟩, cap, by rw [hl], by rw [hl]; exact hc, hcm, fun _ => ⟨_, rfl, (Array.getElem?_eq_some_iff.1 hh).1, rfl, fun j u hu => ?_⟩⟩
  have hj : j < b.length := by
    have := (List.getElem?_eq_some_iff.1 hu).1
    rwa [by8_len, hl] at this
  rw [Addr.add_lit, Nat.zero_add, cell_of_row W g j _ e (0, 0) hh, List.getElem?_toArray]
  have e1 : (splice L off (by8 p)).take b.length = by8 (Vf.upd b off p) := by
    rw [splice_take (by rw [by8_len]; exact hoff) hL, htk, by8_len, by8_take, by8_drop]
    unfold Vf.upd
    rw [List.append_assoc, by8_append, by8_append]
  rw [← e1, List.getElem?_take, if_pos hj] at hu
  exact hu

theorem owns_empty (w : World) (e : TypeId) (n : Nat) (hn : n = w.heap.size) : (w.alloc (.cells #[] e)).ownsRow n e 1 (.slice (some ⟨n, 0, none⟩) 0 0) 0 [] := by
  subst hn
  exact ⟨by simp, .inr ⟨w.heap.size, 0, #[], rfl, Nat.le_refl _, heap_alloc_new w _, Nat.le_refl _, Nat.zero_le _, rfl, by simp⟩⟩
theorem rd_two {w : World} {G : Nat → Prop} {A : Option Addr} {xs : List Value} (h : Rd w G A xs) (o o' : Obj) : Rd ((w.alloc o).alloc o') G A xs :=
  (h.keep (w' := w.alloc o) (by simp) (fun i hi _ => Below.heap_alloc w o i hi)).keep (by simp) (fun i hi _ => Below.heap_alloc _ o' i hi)

end Go.Proofs.YtbakngbmfgnmcaaDoor

namespace Go.Proofs.YtbakngbmfgnmcaaDoor
open Go.RowKit
open Me

namespace Vf
structure Sv where
  room : Int
  now : List Fl
  was : List Fl
  l : List Ac
def used (l : List Fl) : Nat := (l.map (·.b.length)).sum
theorem used_take (l : List Fl) (k : Nat) (h : k < l.length) : used (l.take (k + 1)) = used (l.take k) + l[k].b.length := by
  unfold used
  rw [List.take_succ_eq_append_getElem h, List.map_append, List.sum_append]
  simp
theorem used_le (l : List Fl) (k : Nat) : used (l.take k) ≤ used l := by
  unfold used
  conv => rhs; rw [← List.take_append_drop k l]
  rw [List.map_append, List.sum_append]
  omega
theorem AcC.four {w : World} {G : Nat → Prop} : ∀ a cs, AcC w G a cs → cs.length = 4 := by
  rintro a cs ⟨v, rfl, _⟩; rfl
theorem AcC.keep {w w' : World} {G : Nat → Prop} (hs : w.heap.size ≤ w'.heap.size) (hk : ∀ i, i < w.heap.size → G i → w'.heap[i]? = w.heap[i]?) (a : Ac) (cs : List Value) (h : AcC w G a cs) : AcC w' G a cs := by
  obtain ⟨v, e, hb⟩ := h
  exact ⟨v, e, hb.keep hs hk⟩
theorem AcC.wide {w : World} {G G' : Nat → Prop} (hG : ∀ i, i < w.heap.size → G i → G' i) (a : Ac) (cs : List Value) (h : AcC w G a cs) : AcC w G' a cs := by
  obtain ⟨v, e, hb⟩ := h
  exact ⟨v, e, hb.mono hG⟩
theorem Fs.keep {w w' : World} {G : Nat → Prop} {v : Value} {l : List Fl} (h : Fs w G v l) (hs : w.heap.size ≤ w'.heap.size) (hk : ∀ i, i < w.heap.size → G i → w'.heap[i]? = w.heap[i]?) : Fs w' G v l := by
  obtain ⟨A, c, xs, e, h1, h2, h3, h4⟩ := h
  exact ⟨A, c, xs, e, h1, h2, h3.keep hs hk, h4.mono fun f cs hc => hc.keep hs hk⟩
theorem Fs.wide {w : World} {G G' : Nat → Prop} {v : Value} {l : List Fl} (h : Fs w G v l) (hG : ∀ i, i < w.heap.size → G i → G' i) : Fs w G' v l := by
  obtain ⟨A, c, xs, e, h1, h2, h3, h4⟩ := h
  exact ⟨A, c, xs, e, h1, h2, h3.mono hG, h4.mono fun f cs hc => hc.wide hG⟩
/-- The object at block fs, its row of acts in block lr, all else in blocks of G. -/
structure At (w : World) (G : Nat → Prop) (fs : Nat) (lr : Option Nat) (S : Sv) (nv wv lv : Value) (ys : List Value) : Prop where
  heap : w.heap[fs]? = some (.cells #[.int .i64 S.room, nv, wv, lv] 36 (0, 0))
  now : Fs w G nv S.now
  was : Fs w G wv S.was
  own : w.ownsRow 0 36 4 lv S.l.length ys
  acts : Els (AcC w G) S.l ys
  row : lv.ownBlock = lr
  gfs : ¬ G fs
  glr : ∀ g, lr = some g → ¬ G g ∧ g ≠ fs
  lt : ∀ b, G b → b < w.heap.size
theorem At.cells {w : World} {G : Nat → Prop} {fs : Nat} {lr : Option Nat} {S : Sv} {nv wv lv : Value} {ys : List Value} (h : At w G fs lr S nv wv lv ys) :
    w.cell? ⟨fs, 0, none⟩ = some (.int .i64 S.room) ∧ w.cell? ⟨fs, 1, none⟩ = some nv ∧ w.cell? ⟨fs, 2, none⟩ = some wv ∧ w.cell? ⟨fs, 3, none⟩ = some lv ∧ ∀ i, w.frozen? ⟨fs, i, none⟩ = false := by
  refine ⟨?_, ?_, ?_, ?_, fun i => ?_⟩
  · rw [cell_of_row w fs 0 _ _ _ h.heap]; rfl
  · rw [cell_of_row w fs 1 _ _ _ h.heap]; rfl
  · rw [cell_of_row w fs 2 _ _ _ h.heap]; rfl
  · rw [cell_of_row w fs 3 _ _ _ h.heap]; rfl
  · simp [World.frozen?, h.heap]
theorem At.fsLt {w : World} {G : Nat → Prop} {fs : Nat} {lr : Option Nat} {S : Sv} {nv wv lv : Value} {ys : List Value} (h : At w G fs lr S nv wv lv ys) : fs < w.heap.size := (Array.getElem?_eq_some_iff.1 h.heap).1
end Vf

end Go.Proofs.YtbakngbmfgnmcaaDoor

namespace Go.Proofs.YtbakngbmfgnmcaaDoor
open Go.RowKit
open Me

theorem owns_form {w : World} {base : Nat} {e : TypeId} {size n : Nat} {v : Value} {xs : List Value} (h : w.ownsRow base e size v n xs) (hn : 0 < n) : ∃ g cap, v = .slice (some ⟨g, 0, none⟩) n cap := by
  rcases h.2 with ⟨_, h0⟩ | ⟨g, cap, cur, hv, _⟩
  · omega
  · exact ⟨g, cap, hv⟩
theorem heap_put {w : World} {g i : Nat} {cs : Array Value} {t : TypeId} {fr : Nat × Nat} (h : w.heap[g]? = some (.cells cs t fr)) (u : Value) : (w.setCell ⟨g, i, none⟩ u).heap[g]? = some (.cells (cs.setIfInBounds i u) t fr) := by
  simp [World.setCell, Array.getElem?_modify, h]
theorem size_put (w : World) (p : Addr) (u : Value) : (w.setCell p u).heap.size = w.heap.size := by simp [World.setCell]
theorem frozen_old (w : World) (o : Obj) (a : Addr) (h : a.block < w.heap.size) : (w.alloc o).frozen? a = w.frozen? a := World.frozen?_of_block (Below.heap_alloc w o a.block h)

namespace Vf
/-- What an act leaves that is done, and pending. -/
def Done (w : World) (G Gp : Nat → Prop) (fs : Nat) (lr : Option Nat) (S : Sv) (a : Ac) (e : Ending) (w' : World) : Prop :=
  e = .returned (.int .i64 0) ∧ ∃ G' lr' nv' wv' lv' ys', At w' G' fs lr' { S with now := does S.now a, l := S.l ++ [a] } nv' wv' lv' ys' ∧ Kp (fun b => b = fs ∨ lr = some b) w w' ∧
    (∀ b, G' b → G b ∨ Gp b ∨ w.heap.size ≤ b) ∧ (∀ g, lr' = some g → lr = some g ∨ w.heap.size ≤ g)
end Vf

theorem do_end {w w1 W1 w2 : World} {G Gp : Nat → Prop} {fs g2 cap2 cp : Nat} {lr : Option Nat} {S : Vf.Sv} {nv wv lv v1 : Value} {ys : List Value} {a : Vf.Ac} {Ap : Option Addr} {o : Obj}
    (h : Vf.At w G fs lr S nv wv lv ys) (hp : Bs w Gp (.slice Ap a.p.length cp) a.p) (hGp : ∀ b, Gp b → b < w.heap.size ∧ b ≠ fs ∧ lr ≠ some b)
    (hnow : Vf.Fs w1 (fun b => (G b ∨ Gp b) ∨ w.heap.size + 1 ≤ b) v1 (Vf.does S.now a)) (hsz : W1.heap.size = w1.heap.size) (hs1 : w.heap.size + 1 ≤ w1.heap.size)
    (hfsW : W1.heap[fs]? = some (.cells #[.int .i64 S.room, v1, wv, lv] 36 (0, 0))) (hold : ∀ b, b < w.heap.size → b ≠ fs → W1.heap[b]? = w.heap[b]?) (hnew : ∀ b, w.heap.size ≤ b → W1.heap[b]? = w1.heap[b]?)
    (hw1 : ∀ b, b < w.heap.size → w1.heap[b]? = w.heap[b]?) (hos : W1.os = w.os ∧ W1.tape = w.tape ∧ W1.output = w.output)
    (hown2 : w2.ownsRow 0 36 4 (.slice (some ⟨g2, 0, none⟩) (S.l.length + 1) cap2) (S.l.length + 1) (ys ++ [.int .i64 a.kind, .string ⟨a.name.toArray⟩, .int .i64 (a.off : Int), .slice Ap a.p.length cp]))
    (hg2 : (W1.alloc o).grownBy w2 lv.ownBlock) (hat2 : (Value.slice (some ⟨g2, 0, none⟩) (S.l.length + 1) cap2).ownBlock = lv.ownBlock ∨ (Value.slice (some ⟨g2, 0, none⟩) (S.l.length + 1) cap2).ownBlock = some (W1.alloc o).heap.size) :
    Vf.Done w G Gp fs lr S a (.returned (.int .i64 0)) (w2.setCell ⟨fs, 3, none⟩ (.slice (some ⟨g2, 0, none⟩) (S.l.length + 1) cap2)) := by
  have hfl := h.fsLt
  have hob : (Value.slice (some ⟨g2, 0, none⟩) (S.l.length + 1) cap2).ownBlock = some g2 := rfl
  rw [hob] at hat2
  have hasz : (W1.alloc o).heap.size = w1.heap.size + 1 := by simp [hsz]
  rw [hasz] at hat2
  have hs2 := hg2.size
  rw [hasz] at hs2
  have hrow : ∀ g, lv.ownBlock = some g → lr = some g ∧ g < w.heap.size := fun g hg => ⟨h.row ▸ hg, (h.own.lt g hg).2⟩
  have hg2c : (lr = some g2 ∧ g2 < w.heap.size) ∨ g2 = w1.heap.size + 1 := by
    rcases hat2 with e | e
    · exact .inl (hrow g2 e.symm)
    · exact .inr (Option.some.inj e)
  have hg2f : g2 ≠ fs := by
    rcases hg2c with ⟨e, _⟩ | e
    · exact (h.glr g2 e).2
    · omega
  have K2 : ∀ b, b < (W1.alloc o).heap.size → lv.ownBlock ≠ some b → w2.heap[b]? = (W1.alloc o).heap[b]? := fun b hb hn => hg2.block b hb (fun e => hn e.symm)
  have K : ∀ b, b < w1.heap.size → b ≠ fs → lv.ownBlock ≠ some b → (w2.setCell ⟨fs, 3, none⟩ (.slice (some ⟨g2, 0, none⟩) (S.l.length + 1) cap2)).heap[b]? = w1.heap[b]? := fun b hb hn hr => by
    rw [Below.heap_setCell w2 ⟨fs, 3, none⟩ _ b hn, K2 b (by rw [hasz]; omega) hr, Below.heap_alloc W1 o b (by omega)]
    by_cases hbw : b < w.heap.size
    · rw [hold b hbw hn, hw1 b hbw]
    · exact hnew b (by omega)
  have hlvfs : lv.ownBlock ≠ some fs := fun e => (h.glr fs (hrow fs e).1).2 rfl
  have hGr : ∀ b, G b → lv.ownBlock ≠ some b := fun b hb e => (h.glr b (hrow b e).1).1 hb
  have hGf : ∀ b, G b → b ≠ fs := fun b hb e => h.gfs (e ▸ hb)
  have hG2 : ∀ b, G b → b ≠ g2 := fun b hb e => by
    rcases hg2c with ⟨e2, _⟩ | e2
    · exact (h.glr g2 e2).1 (e ▸ hb)
    · have := h.lt b hb; omega
  have hP2 : ∀ b, Gp b → b ≠ g2 := fun b hb e => by
    rcases hg2c with ⟨e2, _⟩ | e2
    · exact (hGp b hb).2.2 (e ▸ e2)
    · have := (hGp b hb).1; omega
  have hsz3 : (w2.setCell ⟨fs, 3, none⟩ (.slice (some ⟨g2, 0, none⟩) (S.l.length + 1) cap2)).heap.size = w2.heap.size := size_put _ _ _
  have KG : ∀ b, b < w.heap.size → G b → (w2.setCell ⟨fs, 3, none⟩ (.slice (some ⟨g2, 0, none⟩) (S.l.length + 1) cap2)).heap[b]? = w.heap[b]? := fun b hb hg => (K b (by omega) (hGf b hg) (hGr b hg)).trans (hw1 b hb)
  have KP : ∀ b, b < w.heap.size → Gp b → (w2.setCell ⟨fs, 3, none⟩ (.slice (some ⟨g2, 0, none⟩) (S.l.length + 1) cap2)).heap[b]? = w.heap[b]? := fun b hb hg => (K b (by omega) (hGp b hg).2.1 (fun e => (hGp b hg).2.2 (hrow b e).1)).trans (hw1 b hb)
  refine ⟨rfl, fun b => (G b ∨ Gp b ∨ w.heap.size ≤ b) ∧ b < w2.heap.size ∧ b ≠ g2, some g2, v1, wv, .slice (some ⟨g2, 0, none⟩) (S.l.length + 1) cap2, ys ++ [.int .i64 a.kind, .string ⟨a.name.toArray⟩, .int .i64 (a.off : Int), .slice Ap a.p.length cp], ?_, ?_, fun b hb => hb.1, ?_⟩
  · refine ⟨?_, ?_, ?_, ?_, ?_, rfl, ?_, ?_, ?_⟩
    · have e1 : w2.heap[fs]? = some (.cells #[.int .i64 S.room, v1, wv, lv] 36 (0, 0)) := by
        rw [K2 fs (by rw [hasz]; omega) hlvfs, Below.heap_alloc W1 o fs (by omega)]
        exact hfsW
      rw [heap_put e1]
      rfl
    · refine (hnow.wide (fun b hb hg => ?_)).keep (by omega) (fun b hb hg => ?_)
      · refine ⟨?_, by omega, ?_⟩
        · rcases hg with (hg | hg) | hg
          · exact .inl hg
          · exact .inr (.inl hg)
          · exact .inr (.inr (by omega))
        · rcases hg with (hg | hg) | hg
          · exact hG2 b hg
          · exact hP2 b hg
          · rcases hg2c with ⟨_, e2⟩ | e2 <;> omega
      · obtain ⟨hg, _, _⟩ := hg
        refine K b hb ?_ ?_
        · rcases hg with hg | hg | hg
          · exact hGf b hg
          · exact (hGp b hg).2.1
          · omega
        · rcases hg with hg | hg | hg
          · exact hGr b hg
          · exact fun e => (hGp b hg).2.2 (hrow b e).1
          · exact fun e => by have := (hrow b e).2; omega
    · exact (h.was.keep (by omega) KG).wide (fun b hb hg => ⟨.inl hg, by rw [hsz3] at hb; exact hb, hG2 b hg⟩)
    · have e : (S.l ++ [a]).length = S.l.length + 1 := by simp
      show World.ownsRow _ 0 _ 4 _ (S.l ++ [a]).length _
      rw [e]
      exact owns_keep hown2 (fun g hg => by
        have : g2 = g := by simpa [Value.ownBlock] using hg
        subst this
        exact Below.heap_setCell w2 ⟨fs, 3, none⟩ _ g2 hg2f)
    · refine Els.append (h.acts.mono fun x cs hx => (hx.keep (by omega) KG).wide (fun b hb hg => ⟨.inl hg, by rw [hsz3] at hb; exact hb, hG2 b hg⟩)) (Els.one ⟨_, rfl, ?_⟩)
      exact (hp.keep (by omega) KP).mono (fun b hb hg => ⟨.inr (.inl hg), by rw [hsz3] at hb; exact hb, hP2 b hg⟩)
    · rintro ⟨hg | hg | hg, _, _⟩
      · exact h.gfs hg
      · exact (hGp fs hg).2.1 rfl
      · omega
    · intro g hg
      have : g2 = g := Option.some.inj hg
      subst this
      exact ⟨fun hx => hx.2.2 rfl, hg2f⟩
    · intro b hb
      rw [hsz3]
      exact hb.2.1
  · refine ⟨?_, ?_, ?_, by omega, fun b hb hn => ?_⟩
    · exact hg2.os.trans hos.1
    · exact hg2.tape.trans hos.2.1
    · exact hg2.output.trans hos.2.2
    · exact (K b (by omega) (fun e => hn (.inl e)) (fun e => hn (.inr (hrow b e).1))).trans (hw1 b hb)
  · intro g hg
    have : g2 = g := Option.some.inj hg
    subst this
    rcases hg2c with ⟨e, _⟩ | e
    · exact .inl e
    · exact .inr (by omega)

end Go.Proofs.YtbakngbmfgnmcaaDoor

namespace Go.Proofs.YtbakngbmfgnmcaaDoor
open Go.RowKit
open Me

namespace Vf
/-- The file at a place. -/
theorem Fs.nth {w : World} {G : Nat → Prop} {v : Value} {l : List Fl} (h : Fs w G v l) (k : Nat) (hk : k < l.length) :
    ∃ rb ro c A2 c2, v = .slice (some ⟨rb, ro, none⟩) l.length c ∧ l.length ≤ c ∧ c ≤ maxLen ∧ w.cell? ⟨rb, ro + k * 2, none⟩ = some (.string ⟨(l[k].name).toArray⟩) ∧ w.cell? ⟨rb, ro + k * 2 + 1, none⟩ = some (.slice A2 (l[k].b).length c2) ∧
      Bs w G (.slice A2 (l[k].b).length c2) l[k].b ∧ rb < w.heap.size ∧ G rb := by
  obtain ⟨A, c, xs, rfl, hc, hcm, hrd, hels⟩ := h
  obtain ⟨cs, hcs, hx⟩ := hels.get FlC.two k hk
  have hxl := hels.length FlC.two
  obtain ⟨rb, ro, rfl, hlt, hg, hcell⟩ := hrd.lit (k * 2) (by omega)
  obtain ⟨bv, rfl, hbs⟩ := hcs
  have hb := hbs
  obtain ⟨A2, c2, rfl, _, _, _⟩ := hbs
  refine ⟨rb, ro, c, A2, c2, rfl, hc, hcm, hcell _ _ (hx 0 (by omega)), ?_, hb, hlt, hg⟩
  have := hcell _ _ (hx 1 (by omega))
  rwa [← Nat.add_assoc] at this
theorem ix_at {l : List Fl} {n : List UInt8} (h : ¬ ix l n < 0) : ∃ k : Nat, ix l n = (k : Int) ∧ k < l.length := by
  obtain ⟨h1, h2⟩ := ix_bd l n
  exact ⟨(ix l n).toNat, by omega, by omega⟩
def size (l : List Fl) (n : List UInt8) : Int × Int := if is n = false then (0, 1) else if ix l n < 0 then (0, 5) else (((l.getD (ix l n).toNat ⟨[], []⟩).b.length : Int), 0)
end Vf

theorem ret_two {a b c d : Int} (h : (a, b) = (c, d)) : Ending.returned (.tuple #[.int .i64 a, .int .i64 b]) = .returned (.tuple #[.int .i64 c, .int .i64 d]) := by
  injection h with h1 h2
  rw [h1, h2]

theorem put_heap {w : World} {g i : Nat} {cs : Array Value} {t : TypeId} {fr : Nat × Nat} (h : w.heap[g]? = some (.cells cs t fr)) (u : Value) : (w.setCell ⟨g, i, none⟩ u).heap[g]? = some (.cells (cs.setIfInBounds i u) t fr) := by
  simp [World.setCell, Array.getElem?_modify, h]
theorem put_size (w : World) (p : Addr) (u : Value) : (w.setCell p u).heap.size = w.heap.size := by simp [World.setCell]
theorem sync_end {w : World} {G : Nat → Prop} {fs : Nat} {lr : Option Nat} {S : Vf.Sv} {nv wv lv : Value} {ys : List Value} (h : Vf.At w G fs lr S nv wv lv ys) :
    Vf.At ((w.setCell ⟨fs, 2, none⟩ nv).setCell ⟨fs, 3, none⟩ (.slice none 0 0)) G fs none { S with was := S.now, l := [] } nv nv (.slice none 0 0) [] := by
  have hs : ((w.setCell ⟨fs, 2, none⟩ nv).setCell ⟨fs, 3, none⟩ (.slice none 0 0)).heap.size = w.heap.size := by rw [put_size, put_size]
  have hk : ∀ b, b < w.heap.size → G b → ((w.setCell ⟨fs, 2, none⟩ nv).setCell ⟨fs, 3, none⟩ (.slice none 0 0)).heap[b]? = w.heap[b]? := fun b _ hg => by
    have hne : b ≠ fs := fun e => h.gfs (e ▸ hg)
    rw [Below.heap_setCell _ ⟨fs, 3, none⟩ _ b hne, Below.heap_setCell _ ⟨fs, 2, none⟩ _ b hne]
  refine ⟨?_, h.now.keep (by omega) hk, h.now.keep (by omega) hk, World.ownsRow_nil _ _ _ _, rfl, rfl, h.gfs, (fun g h => nomatch h), fun b hb => by rw [hs]; exact h.lt b hb⟩
  rw [put_heap (put_heap h.heap _)]
  rfl

end Go.Proofs.YtbakngbmfgnmcaaDoor

namespace Go.Proofs.YtbakngbmfgnmcaaDoor
open Go.RowKit
open Me

namespace Vf
theorem At.kp {w w' : World} {G O : Nat → Prop} {fs : Nat} {lr : Option Nat} {S : Sv} {nv wv lv : Value} {ys : List Value} (h : At w G fs lr S nv wv lv ys) (k : Kp O w w') (hO : ∀ b, O b → ¬ G b ∧ b ≠ fs ∧ lr ≠ some b) : At w' G fs lr S nv wv lv ys := by
  have hk : ∀ b, b < w.heap.size → G b → w'.heap[b]? = w.heap[b]? := fun b hb hg => k.block b hb (fun o => (hO b o).1 hg)
  refine ⟨(k.block fs h.fsLt (fun o => (hO fs o).2.1 rfl)).trans h.heap, h.now.keep k.size hk, h.was.keep k.size hk, owns_keep h.own (fun g hg => k.block g (h.own.lt g hg).2 (fun o => (hO g o).2.2 (h.row ▸ hg))), h.acts.mono fun x cs hx => hx.keep k.size hk, h.row, h.gfs, h.glr, fun b hb => Nat.lt_of_lt_of_le (h.lt b hb) k.size⟩
theorem At.below {w w' : World} {G : Nat → Prop} {fs : Nat} {lr : Option Nat} {S : Sv} {nv wv lv : Value} {ys : List Value} (h : At w G fs lr S nv wv lv ys) (b : Below w.heap.size w w') : At w' G fs lr S nv wv lv ys :=
  h.kp (O := fun _ => False) (Kp.of_below b) (fun _ o => o.elim)
theorem At.drew {w : World} {G : Nat → Prop} {fs : Nat} {lr : Option Nat} {S : Sv} {nv wv lv : Value} {ys : List Value} (h : At w G fs lr S nv wv lv ys) : At w.drew G fs lr S nv wv lv ys :=
  h.kp (O := fun _ => False) (Kp.refl _ _).drew (fun _ o => o.elim)
def Sv.act (S : Sv) (a : Ac) : Sv := { S with now := does S.now a, l := S.l ++ [a] }
/-- What an act leaves: a number, and the object as it then is. -/
def Next (w : World) (G : Nat → Prop) (fs : Nat) (lr : Option Nat) (R : Sv × Int) (e : Ending) (w' : World) : Prop :=
  e = .returned (.int .i64 R.2) ∧ ∃ G' lr' nv' wv' lv' ys', At w' G' fs lr' R.1 nv' wv' lv' ys' ∧ Kp (fun b => b = fs ∨ lr = some b) w w' ∧
    (∀ b, G' b → G b ∨ w.heap.size ≤ b) ∧ (∀ g, lr' = some g → lr = some g ∨ w.heap.size ≤ g)
theorem Next.no {w w' : World} {G : Nat → Prop} {fs : Nat} {lr : Option Nat} {S : Sv} {nv wv lv : Value} {ys : List Value} (h : At w' G fs lr S nv wv lv ys) (b : Below w.heap.size w w') {R : Sv × Int} {i : Int} (hR : R = (S, i)) : Next w G fs lr R (.returned (.int .i64 i)) w' := by
  subst hR
  exact ⟨rfl, G, lr, nv, wv, lv, ys, h, Kp.of_below b, fun _ hb => .inl hb, fun _ hg => .inl hg⟩
theorem Next.done {w w1 w2 : World} {G Gp : Nat → Prop} {fs : Nat} {lr : Option Nat} {S : Sv} {a : Ac} {e : Ending} (b : Below w.heap.size w w1) (hGp : ∀ i, Gp i → w.heap.size ≤ i) (hd : Done w1 G Gp fs lr S a e w2) {R : Sv × Int} (hR : R = (S.act a, 0)) : Next w G fs lr R e w2 := by
  subst hR
  obtain ⟨rfl, G', lr', nv', wv', lv', ys', h1, h2, h3, h4⟩ := hd
  refine ⟨rfl, G', lr', nv', wv', lv', ys', h1, (Kp.of_below b).trans h2 (fun _ _ o => o), fun i hi => ?_, fun g hg => ?_⟩
  · rcases h3 i hi with h | h | h
    · exact .inl h
    · exact .inr (hGp i h)
    · exact .inr (Nat.le_trans b.size h)
  · rcases h4 g hg with h | h
    · exact .inl h
    · exact .inr (Nat.le_trans b.size h)
def create (S : Sv) (n b : List UInt8) : Sv × Int := if is n = false then (S, 1) else if 0 ≤ ix S.now n then (S, 6) else if S.room - used S.now < b.length then (S, 4) else (S.act ⟨1, n, 0, b⟩, 0)
def remove (S : Sv) (n : List UInt8) : Sv × Int := if is n = false then (S, 1) else if ix S.now n < 0 then (S, 5) else (S.act ⟨3, n, 0, []⟩, 0)
theorem used_mem {l : List Fl} {f : Fl} (h : f ∈ l) : f.b.length ≤ used l := by
  unfold used
  induction l with
  | nil => cases h
  | cons x r ih =>
    rw [List.map_cons, List.sum_cons]
    rcases List.mem_cons.1 h with rfl | h
    · omega
    · have := ih h; omega
end Vf

theorem ret_i (a : Int) : Ending.returned (.int .i64 a) = .returned (.int .i64 a) := rfl

end Go.Proofs.YtbakngbmfgnmcaaDoor

namespace Go.Proofs.YtbakngbmfgnmcaaDoor
open Go.RowKit
open Me

namespace Vf
def lenAt (l : List Fl) (n : List UInt8) : Nat := (l.getD (ix l n).toNat ⟨[], []⟩).b.length
def write (S : Sv) (n : List UInt8) (t : Int) (b : List UInt8) : Sv × Int :=
  if is n = false then (S, 1) else if ix S.now n < 0 then (S, 5) else if t < 0 ∨ (lenAt S.now n : Int) < t ∨ (lenAt S.now n : Int) - t < b.length then (S, 1) else (S.act ⟨2, n, t.toNat, b⟩, 0)
theorem write_one {S : Sv} {n : List UInt8} {t : Int} {b : List UInt8} {k : Nat} (hi : is n = true) (hk : ix S.now n = (k : Int)) (hkl : k < S.now.length) (h : t < 0 ∨ (((S.now[k].b).length : Nat) : Int) < t ∨ (((S.now[k].b).length : Nat) : Int) - t < b.length) : write S n t b = (S, 1) := by
  have hl : lenAt S.now n = (S.now[k].b).length := by unfold lenAt; rw [hk]; simp [hkl]
  unfold write
  rw [if_neg (by simp [hi]), if_neg (by omega), if_pos (by rw [hl]; exact h)]
theorem write_done {S : Sv} {n : List UInt8} {m : Nat} {b : List UInt8} {k : Nat} (hi : is n = true) (hk : ix S.now n = (k : Int)) (hkl : k < S.now.length) (h : m + b.length ≤ (S.now[k].b).length) : write S n (m : Int) b = (S.act ⟨2, n, m, b⟩, 0) := by
  have hl : lenAt S.now n = (S.now[k].b).length := by unfold lenAt; rw [hk]; simp [hkl]
  unfold write
  rw [if_neg (by simp [hi]), if_neg (by omega), if_neg (by rw [hl]; omega)]
  simp
end Vf

end Go.Proofs.YtbakngbmfgnmcaaDoor
