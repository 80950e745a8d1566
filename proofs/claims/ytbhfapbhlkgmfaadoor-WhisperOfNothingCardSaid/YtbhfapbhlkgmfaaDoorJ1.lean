/-
  U8: What a byte is, in this translation.
  Me: MEMORY, for every seat: what stands of a world outside of a set of blocks; rows of cells that are read; lists of things, each of so many cells. No program is named here.
  VrPure: THE PLAIN MATHEMATICS of files: the document's own answers of chapter 3, over lists.
  VrRef: CONTRACTS: the document's own files (chapter 3): what is read.
  MeApp: append onto a row of the call's own, out of whatever slice is read (nil, empty or not): as a law for the walk.
  VrRows: CONTRACTS: the document's own files: rows of bytes as one; how much there is.
  VrDoes: CONTRACTS: the document's own files: what an act makes of them.
  VrFs: CONTRACTS: the document's own files as an object: what it tells.
  VrDo: CONTRACTS: the document's own files as an object: an act is done, and pending.
  VrTell: CONTRACTS: the document's own files as an object: sizes, what is pending, all synced; one that is new.
  VrActs: CONTRACTS: the document's own files as an object: Create and Remove.
  VrWrite: CONTRACTS: the document's own files as an object: WriteAt.
  VrCrash: CONTRACTS: the document's own files as an object: a crash.
  VrSound: THE PLAIN MATHEMATICS of files: what holds of the document's own files whatever is played.
  VrRead: CONTRACTS: the document's own files as an object: Read.
  FxPure: THE PLAIN MATHEMATICS of fixed's values: what each function comes to, over whole numbers of any size. No program is named here.
  FxBase: THE FIRST CONTRACTS: what fixed's small functions come to, and the document's own.
  WhPure: PLAIN MATHEMATICS: which headers may be, their sizes and places. No program is named here.
  WhBase: CONTRACTS: whead's small functions: numbers within range, spans, two archives side by side, where archives end.
  WhFol: CONTRACTS: whead's archives: which may follow which, where they end, whether they may be.
-/
import Derived.Test.YtbhfapbhlkgmfaaDoorRows
import Derived.WalkKit
import Derived.Below
import Derived.Laws.OwnMore
import Derived.Laws.Rows
import Derived.Maps.AppendAt
import Derived.Deep.AppendLies
import Derived.Deep.Draws
import Derived.OwnWalk
import Derived.Lib.Hide
import Derived.WalkSpells
import Derived.WalkLawsBesides
import Derived.Deep.QuietTactic
import Derived.BigQuiet
import Derived.Lib.QuietBelow
import Derived.Lib.Strings
import Derived.Tactics
import Derived.Laws.CopyOwn
import Derived.Deep.RegionLaw
import Derived.Deep.RegionWith
import Derived.IntWalk

namespace Go.Proofs.YtbhfapbhlkgmfaaDoor
open Go.RowKit
theorem u8info : (Tryd.prog.info? 5).map (fun i => (i.zero, i.size, i.bytes)) = some (some (.int .u8 0), 1, 1) := by kernel_rfl
end Go.Proofs.YtbhfapbhlkgmfaaDoor

namespace Go.Proofs.YtbhfapbhlkgmfaaDoor
open Go.RowKit
namespace Me

/-- Outside of the set O all is as it was; blocks may have been laid. -/
structure Kp (O : Nat → Prop) (w w' : World) : Prop where
  os : w'.os = w.os
  tape : w'.tape = w.tape
  output : w'.output = w.output
  size : w.heap.size ≤ w'.heap.size
  block : ∀ k, k < w.heap.size → ¬ O k → w'.heap[k]? = w.heap[k]?

theorem Kp.refl (O : Nat → Prop) (w : World) : Kp O w w := ⟨rfl, rfl, rfl, Nat.le_refl _, fun _ _ _ => rfl⟩
theorem Kp.trans {O O' : Nat → Prop} {a b c : World} (h : Kp O a b) (k : Kp O' b c) (hO : ∀ i, i < a.heap.size → O' i → O i) : Kp O a c :=
  ⟨k.os.trans h.os, k.tape.trans h.tape, k.output.trans h.output, Nat.le_trans h.size k.size,
    fun i hi hn => (k.block i (Nat.lt_of_lt_of_le hi h.size) (fun x => hn (hO i hi x))).trans (h.block i hi hn)⟩
theorem Kp.mono {O O' : Nat → Prop} {a b : World} (h : Kp O a b) (hO : ∀ i, i < a.heap.size → O i → O' i) : Kp O' a b :=
  ⟨h.os, h.tape, h.output, h.size, fun i hi hn => h.block i hi (fun x => hn (hO i hi x))⟩
theorem Kp.of_below {O : Nat → Prop} {a b : World} (h : Below a.heap.size a b) : Kp O a b := ⟨h.os, h.tape, h.output, h.size, fun i hi _ => h.block i hi⟩
theorem Kp.below {O : Nat → Prop} {a b : World} {B : Nat} (h : Kp O a b) (hB : B ≤ a.heap.size) (hO : ∀ i, i < B → ¬ O i) : Below B a b :=
  ⟨h.os, h.tape, h.output, h.size, fun i hi => h.block i (Nat.lt_of_lt_of_le hi hB) (hO i hi)⟩
theorem Kp.alloc {O : Nat → Prop} {a w : World} (h : Kp O a w) (o : Obj) : Kp O a (w.alloc o) :=
  ⟨h.os, h.tape, h.output, Nat.le_trans h.size (by simp), fun i hi hn => (Below.heap_alloc w o i (Nat.lt_of_lt_of_le hi h.size)).trans (h.block i hi hn)⟩
theorem Kp.drew {O : Nat → Prop} {a w : World} (h : Kp O a w) : Kp O a w.drew := ⟨h.os, h.tape, h.output, h.size, h.block⟩
theorem Kp.drewN {O : Nat → Prop} {a w : World} (h : Kp O a w) (n : Nat) : Kp O a (w.drewN n) := ⟨h.os, h.tape, h.output, h.size, h.block⟩
theorem Kp.setCell {O : Nat → Prop} {a w : World} (h : Kp O a w) (p : Addr) (hp : a.heap.size ≤ p.block ∨ O p.block) (u : Value) : Kp O a (w.setCell p u) :=
  ⟨h.os, h.tape, h.output, by simpa [World.setCell] using h.size, fun i hi hn => (Below.heap_setCell w p u i (by
    rintro rfl
    rcases hp with hp | hp
    · omega
    · exact hn hp)).trans (h.block i hi hn)⟩
theorem Kp.grown {O : Nat → Prop} {a w w' : World} {row : Option Nat} (h : Kp O a w) (hg : w.grownBy w' row) (hr : ∀ g, row = some g → a.heap.size ≤ g ∨ O g) : Kp O a w' :=
  ⟨hg.os.trans h.os, hg.tape.trans h.tape, hg.output.trans h.output, Nat.le_trans h.size hg.size, fun i hi hn => (hg.block i (Nat.lt_of_lt_of_le hi h.size) (by
    intro e
    rcases hr i e.symm with h1 | h1
    · omega
    · exact hn h1)).trans (h.block i hi hn)⟩
theorem Kp.cell {O : Nat → Prop} {a w : World} (h : Kp O a w) {p : Addr} (hp : p.block < a.heap.size) (hO : ¬ O p.block) : w.cell? p = a.cell? p := World.cell?_of_block (h.block _ hp hO)
theorem Kp.frozen {O : Nat → Prop} {a w : World} (h : Kp O a w) {p : Addr} (hp : p.block < a.heap.size) (hO : ¬ O p.block) : w.frozen? p = a.frozen? p := World.frozen?_of_block (h.block _ hp hO)

theorem block_add (a : Addr) (n : Nat) : (a.add n).block = a.block := by unfold Addr.add; split <;> rfl
theorem add_add (a : Addr) (i j : Nat) : (a.add i).add j = a.add (i + j) := by
  unfold Addr.add
  by_cases hi : i = 0 <;> by_cases hj : j = 0 <;> simp [hi, hj, Nat.add_assoc]

/-- The cells at an address read as these values; the block is one of G. -/
def Rd (w : World) (G : Nat → Prop) (A : Option Addr) (xs : List Value) : Prop :=
  xs ≠ [] → ∃ ad, A = some ad ∧ ad.block < w.heap.size ∧ G ad.block ∧ ∀ j u, xs[j]? = some u → w.cell? (ad.add j) = some u
theorem Rd.none_ (w : World) (G : Nat → Prop) (A : Option Addr) : Rd w G A [] := fun h => absurd rfl h
theorem Rd.keep {w w' : World} {G : Nat → Prop} {A : Option Addr} {xs : List Value} (h : Rd w G A xs) (hs : w.heap.size ≤ w'.heap.size) (hk : ∀ i, i < w.heap.size → G i → w'.heap[i]? = w.heap[i]?) : Rd w' G A xs := fun hn => by
  obtain ⟨ad, e, hl, hg, hc⟩ := h hn
  refine ⟨ad, e, Nat.lt_of_lt_of_le hl hs, hg, fun j u hu => ?_⟩
  exact (World.cell?_of_block (w := w) (w' := w') (a := ad.add j) (by rw [block_add]; exact hk _ hl hg)).trans (hc j u hu)
theorem Rd.mono {w : World} {G G' : Nat → Prop} {A : Option Addr} {xs : List Value} (h : Rd w G A xs) (hG : ∀ i, i < w.heap.size → G i → G' i) : Rd w G' A xs := fun hn => by
  obtain ⟨ad, e, hl, hg, hc⟩ := h hn
  exact ⟨ad, e, hl, hG _ hl hg, hc⟩
theorem Rd.kp {w w' : World} {G O : Nat → Prop} {A : Option Addr} {xs : List Value} (h : Rd w G A xs) (k : Kp O w w') (hd : ∀ i, i < w.heap.size → G i → ¬ O i) : Rd w' G A xs :=
  h.keep k.size fun i hi hg => k.block i hi (hd i hi hg)
theorem Rd.below {w w' : World} {G : Nat → Prop} {A : Option Addr} {xs : List Value} (h : Rd w G A xs) (b : Below w.heap.size w w') : Rd w' G A xs :=
  h.keep b.size fun i hi _ => b.block i hi
theorem Rd.at_ {w : World} {G : Nat → Prop} {A : Option Addr} {xs : List Value} (h : Rd w G A xs) (k : Nat) (hk : k < xs.length) : ∃ ad, A = some ad ∧ ad.block < w.heap.size ∧ G ad.block ∧ ∀ j u, xs[j]? = some u → w.cell? (ad.add j) = some u :=
  h (by intro e; rw [e] at hk; cases hk)
/-- The address written out: a cell that is there has no inner spot. -/
theorem Rd.lit {w : World} {G : Nat → Prop} {A : Option Addr} {xs : List Value} (h : Rd w G A xs) (k : Nat) (hk : k < xs.length) : ∃ b o, A = some ⟨b, o, none⟩ ∧ b < w.heap.size ∧ G b ∧ ∀ j u, xs[j]? = some u → w.cell? ⟨b, o + j, none⟩ = some u := by
  obtain ⟨⟨b, o, s⟩, e, hl, hg, hc⟩ := h.at_ k hk
  have h0 := hc 0 _ (List.getElem?_eq_getElem (by omega : 0 < xs.length))
  have hs : s = none := by
    cases s with
    | none => rfl
    | some s =>
      exfalso
      have e0 : (⟨b, o, some s⟩ : Addr).add 0 = ⟨b, o, some s⟩ := by unfold Addr.add; simp
      rw [e0] at h0
      unfold World.cell? at h0
      split at h0 <;> simp at h0
  subst hs
  exact ⟨b, o, e, hl, hg, fun j u hu => by have := hc j u hu; rwa [Addr.add_lit] at this⟩
theorem Rd.sub {w : World} {G : Nat → Prop} {ad : Addr} {xs : List Value} (h : Rd w G (some ad) xs) (lo n : Nat) : Rd w G (some (ad.add lo)) ((xs.drop lo).take n) := fun hn => by
  have hx : xs ≠ [] := by rintro rfl; exact hn (by simp)
  obtain ⟨ad', e, hl, hg, hc⟩ := h hx
  obtain rfl := Option.some.inj e
  refine ⟨_, rfl, by rw [block_add]; exact hl, by rw [block_add]; exact hg, fun j u hu => ?_⟩
  rw [add_add]
  rw [List.getElem?_take] at hu
  split at hu
  · rw [List.getElem?_drop] at hu
    exact hc _ u hu
  · cases hu
theorem Rd.own {w : World} {base : Nat} {e : TypeId} {size n c : Nat} {A : Option Addr} {xs : List Value} (h : w.ownsRow base e size (.slice A n c) n xs) : Rd w (fun i => (Value.slice A n c).ownBlock = some i) A xs := fun hn => by
  rcases h.2 with ⟨hv, h0⟩ | ⟨g, cap, cur, hv, hb, hg, hnc, hcm, hcs, ht⟩
  · have hz : xs = [] := List.eq_nil_of_length_eq_zero (by rw [h.1, h0]; simp)
    exact absurd hz hn
  · injection hv with hv
    subst hv
    refine ⟨_, rfl, (Array.getElem?_eq_some_iff.1 hg).1, rfl, fun j u hu => ?_⟩
    have e1 : (⟨g, 0, none⟩ : Addr).add j = ⟨g, j, none⟩ := by unfold Addr.add; by_cases h0 : j = 0 <;> simp [h0]
    rw [e1, cell_of_row w g j cur e (0, 0) hg]
    rw [← ht] at hu
    rw [List.getElem?_take] at hu
    split at hu
    · simpa using hu
    · cases hu

/-! ## lists of things, each of some cells -/
def Els {α : Type} (E : α → List Value → Prop) : List α → List Value → Prop
  | [], xs => xs = []
  | a :: r, xs => ∃ cs rest, xs = cs ++ rest ∧ E a cs ∧ Els E r rest
theorem Els.mono {α : Type} {E E' : α → List Value → Prop} (h : ∀ a cs, E a cs → E' a cs) : ∀ {l : List α} {xs : List Value}, Els E l xs → Els E' l xs
  | [], _, hx => hx
  | _ :: _, _, ⟨cs, rest, e, ha, hr⟩ => ⟨cs, rest, e, h _ _ ha, hr.mono h⟩
theorem Els.append {α : Type} {E : α → List Value → Prop} : ∀ {l m : List α} {xs ys : List Value}, Els E l xs → Els E m ys → Els E (l ++ m) (xs ++ ys)
  | [], _, _, _, hx, hm => by subst hx; exact hm
  | _ :: _, _, _, _, ⟨cs, rest, e, ha, hr⟩, hm => ⟨cs, rest ++ _, by rw [e, List.append_assoc], ha, hr.append hm⟩
theorem Els.one {α : Type} {E : α → List Value → Prop} {a : α} {cs : List Value} (h : E a cs) : Els E [a] cs := ⟨cs, [], by simp, h, rfl⟩
theorem Els.length {α : Type} {E : α → List Value → Prop} {s : Nat} (hs : ∀ a cs, E a cs → cs.length = s) : ∀ {l : List α} {xs : List Value}, Els E l xs → xs.length = l.length * s
  | [], _, hx => by subst hx; simp
  | _ :: _, _, ⟨cs, rest, e, ha, hr⟩ => by rw [e, List.length_append, hs _ _ ha, hr.length hs, List.length_cons, Nat.add_mul]; omega
theorem Els.get {α : Type} {E : α → List Value → Prop} {s : Nat} (hs : ∀ a cs, E a cs → cs.length = s) : ∀ {l : List α} {xs : List Value} (_ : Els E l xs) (i : Nat) (hi : i < l.length), ∃ cs, E l[i] cs ∧ ∀ j, j < s → xs[i * s + j]? = cs[j]?
  | a :: r, _, ⟨cs, rest, e, ha, hr⟩, 0, _ => ⟨cs, ha, fun j hj => by rw [e, Nat.zero_mul, Nat.zero_add, List.getElem?_append_left (by rw [hs _ _ ha]; exact hj)]⟩
  | a :: r, _, ⟨cs, rest, e, ha, hr⟩, i + 1, hi => by
    obtain ⟨cs', h1, h2⟩ := hr.get hs i (by simpa using hi)
    refine ⟨cs', h1, fun j hj => ?_⟩
    have hl : (i + 1) * s + j = cs.length + (i * s + j) := by rw [hs _ _ ha, Nat.add_mul]; omega
    rw [e, hl, List.getElem?_append_right (by omega), Nat.add_sub_cancel_left]
    exact h2 j hj

/-- Bytes as cells. -/
def by8 (l : List UInt8) : List Value := l.map fun c => .int .u8 (c.toNat : Int)
theorem by8_len (l : List UInt8) : (by8 l).length = l.length := by unfold by8; simp
theorem by8_append (a b : List UInt8) : by8 (a ++ b) = by8 a ++ by8 b := by unfold by8; simp
theorem by8_get (l : List UInt8) (j : Nat) (h : j < l.length) : (by8 l)[j]? = some (.int .u8 (l[j].toNat : Int)) := by unfold by8; simp [h]
theorem by8_one (l : List UInt8) : ∀ u ∈ by8 l, u.oneCell' = true := by
  intro u hu
  unfold by8 at hu
  obtain ⟨c, _, rfl⟩ := List.mem_map.1 hu
  rfl
/-- A slice of bytes that reads as a list. -/
def Bs (w : World) (G : Nat → Prop) (v : Value) (l : List UInt8) : Prop := ∃ A c, v = .slice A l.length c ∧ l.length ≤ c ∧ c ≤ maxLen ∧ Rd w G A (by8 l)
theorem Bs.keep {w w' : World} {G : Nat → Prop} {v : Value} {l : List UInt8} (h : Bs w G v l) (hs : w.heap.size ≤ w'.heap.size) (hk : ∀ i, i < w.heap.size → G i → w'.heap[i]? = w.heap[i]?) : Bs w' G v l := by
  obtain ⟨A, c, e, h1, h2, h3⟩ := h
  exact ⟨A, c, e, h1, h2, h3.keep hs hk⟩
theorem Bs.mono {w : World} {G G' : Nat → Prop} {v : Value} {l : List UInt8} (h : Bs w G v l) (hG : ∀ i, i < w.heap.size → G i → G' i) : Bs w G' v l := by
  obtain ⟨A, c, e, h1, h2, h3⟩ := h
  exact ⟨A, c, e, h1, h2, h3.mono hG⟩
theorem Bs.below {w w' : World} {G : Nat → Prop} {v : Value} {l : List UInt8} (h : Bs w G v l) (b : Below w.heap.size w w') : Bs w' G v l := h.keep b.size fun i hi _ => b.block i hi
end Me
end Go.Proofs.YtbhfapbhlkgmfaaDoor

namespace Go.Proofs.YtbhfapbhlkgmfaaDoor
namespace Vf

structure Fl where
  name : List UInt8
  b : List UInt8
structure Ac where
  kind : Int
  name : List UInt8
  off : Nat
  p : List UInt8
/-- Where a file stands; -1: nowhere. -/
def ixFrom (n : List UInt8) : Nat → List Fl → Int
  | _, [] => -1
  | k, f :: r => if f.name == n then (k : Int) else ixFrom n (k + 1) r
def ix (l : List Fl) (n : List UInt8) : Int := ixFrom n 0 l
theorem ixFrom_skip (n : List UInt8) : ∀ (l : List Fl) (k j : Nat), j ≤ l.length → (∀ i (h : i < l.length), i < j → (l[i].name == n) = false) → ixFrom n k l = ixFrom n (k + j) (l.drop j)
  | _, _, 0, _, _ => rfl
  | [], k, j + 1, h, _ => by simp at h
  | f :: r, k, j + 1, h, hn => by
    have h0 := hn 0 (by simp) (by omega)
    simp only [List.getElem_cons_zero] at h0
    rw [ixFrom, h0]
    simp only [Bool.false_eq_true, if_false]
    rw [ixFrom_skip n r (k + 1) j (by simpa using h) (fun i hi hj => by have := hn (i + 1) (by simpa using hi) (by omega); simpa using this), List.drop_succ_cons]
    congr 1
    omega
theorem ix_hit {l : List Fl} {n : List UInt8} {k : Nat} (hk : k < l.length) (hn : ∀ i (h : i < l.length), i < k → (l[i].name == n) = false) (h : (l[k].name == n) = true) : ix l n = k := by
  unfold ix
  rw [ixFrom_skip n l 0 k (by omega) hn, List.drop_eq_getElem_cons hk, ixFrom, h]
  simp
theorem ix_miss {l : List Fl} {n : List UInt8} (hn : ∀ i (h : i < l.length), i < l.length → (l[i].name == n) = false) : ix l n = -1 := by
  unfold ix
  rw [ixFrom_skip n l 0 l.length (Nat.le_refl _) hn, List.drop_length]
  rfl
theorem ixFrom_bd (n : List UInt8) : ∀ (l : List Fl) (k : Nat), ixFrom n k l = -1 ∨ ((k : Int) ≤ ixFrom n k l ∧ ixFrom n k l < (k : Int) + l.length)
  | [], _ => .inl rfl
  | f :: r, k => by
    rw [ixFrom]
    split
    · right; simp; omega
    · rcases ixFrom_bd n r (k + 1) with h | h
      · exact .inl h
      · right; simp at h ⊢; omega
theorem ix_bd (l : List Fl) (n : List UInt8) : -1 ≤ ix l n ∧ ix l n < l.length := by
  unfold ix
  rcases ixFrom_bd n l 0 with h | h
  · omega
  · simp at h; omega
/-- Bytes written over, from a place on. -/
def upd (b : List UInt8) (off : Nat) (p : List UInt8) : List UInt8 := b.take off ++ p ++ b.drop (off + p.length)
theorem upd_len {b : List UInt8} {off : Nat} {p : List UInt8} (h : off + p.length ≤ b.length) : (upd b off p).length = b.length := by
  unfold upd
  simp
  omega
/-- What becomes of the file at place k, where i is the place of the one that is meant. -/
def one (a : Ac) (i : Int) (k : Nat) (x : Fl) : List Fl :=
  if (k : Int) = i ∧ a.kind = 2 then [⟨x.name, upd x.b a.off a.p⟩] else if (k : Int) = i ∧ a.kind = 3 then [] else [x]
def goes (a : Ac) (i : Int) : Nat → List Fl → List Fl
  | _, [] => []
  | k, x :: r => one a i k x ++ goes a i (k + 1) r
def does (l : List Fl) (a : Ac) : List Fl := goes a (ix l a.name) 0 l ++ if a.kind = 1 then [⟨a.name, a.p⟩] else []
theorem goes_append (a : Ac) (i : Int) : ∀ (l m : List Fl) (k : Nat), goes a i k (l ++ m) = goes a i k l ++ goes a i (k + l.length) m
  | [], _, _ => rfl
  | x :: r, m, k => by
    rw [List.cons_append, goes, goes, goes_append a i r m (k + 1), List.append_assoc, List.length_cons]
    congr 3
    omega
theorem goes_take (a : Ac) (i : Int) (l : List Fl) (k : Nat) (h : k < l.length) : goes a i 0 (l.take (k + 1)) = goes a i 0 (l.take k) ++ one a i k l[k] := by
  rw [List.take_succ_eq_append_getElem h, goes_append]
  congr 1
  rw [List.length_take, Nat.zero_add, Nat.min_eq_left (by omega)]
  simp [goes]
theorem one_len (a : Ac) (i : Int) (k : Nat) (x : Fl) : (one a i k x).length ≤ 1 := by
  unfold one
  split
  · simp
  · split <;> simp
theorem goes_len (a : Ac) (i : Int) : ∀ (l : List Fl) (k : Nat), (goes a i k l).length ≤ l.length
  | [], _ => by simp [goes]
  | x :: r, k => by
    have h1 := one_len a i k x
    have h2 := goes_len a i r (k + 1)
    rw [goes, List.length_append, List.length_cons]
    omega
theorem does_len (l : List Fl) (a : Ac) : (does l a).length ≤ l.length + 1 := by
  have h := goes_len a (ix l a.name) l 0
  unfold does
  rw [List.length_append]
  split
  · simp; omega
  · simp; omega
end Vf
end Go.Proofs.YtbhfapbhlkgmfaaDoor

namespace Go.Proofs.YtbhfapbhlkgmfaaDoor
open Go.RowKit
open Me

theorem ret_i64 {a b : Int} (h : a = b) : Ending.returned (.int .i64 a) = .returned (.int .i64 b) := by rw [h]
theorem ret_bool {a b : Bool} (h : a = b) : Ending.returned (.bool a) = .returned (.bool b) := by rw [h]

namespace Vf
def FlC (w : World) (G : Nat → Prop) (f : Fl) (cs : List Value) : Prop := ∃ v, cs = [.string ⟨f.name.toArray⟩, v] ∧ Bs w G v f.b
theorem FlC.two {w : World} {G : Nat → Prop} : ∀ f cs, FlC w G f cs → cs.length = 2 := by
  rintro f cs ⟨v, rfl, _⟩; rfl
/-- A slice of files that reads as a list. -/
def Fs (w : World) (G : Nat → Prop) (v : Value) (l : List Fl) : Prop := ∃ A c xs, v = .slice A l.length c ∧ l.length ≤ c ∧ c ≤ maxLen ∧ Rd w G A xs ∧ Els (FlC w G) l xs
def is (n : List UInt8) : Bool := decide (1 ≤ n.length ∧ n.length ≤ 255)
end Vf

end Go.Proofs.YtbhfapbhlkgmfaaDoor

namespace Go.Proofs.YtbhfapbhlkgmfaaDoor
open Go.RowKit
namespace Me
section
variable {P : Program} (w : World)

theorem run_app (base : Nat) (t ty e : TypeId) (i : TypeInfo) (z : Value) (size bytes : Nat) (ht : P.underlying t = some (.slice e)) (hi : P.info? e = some i) (hz : i.zero = some z)
    (hsize : i.size = size) (hby : i.bytes = bytes) (hzs : z.cells.size = size) (hsz : 0 < size)
    (v : Value) (n : Nat) (xs : List Value) (hown : w.ownsRow base e size v n xs)
    (G : Nat → Prop) (A : Option Addr) (m c : Nat) (news : List Value) (hl : news.length = m * size) (hr : Rd w G A news) (h1 : ∀ u ∈ news, u.oneCell' = true)
    (h63 : n + m ≤ maxLen) (hbytes : (n + m) * bytes ≤ 140737488355328) (hbase : base ≤ w.heap.size) :
    ∃ v' w', (Builtin.append_ #[t, t] ty #[v, .slice A m c]).run P w = .ok v' w' ∧ w'.ownsRow base e size v' (n + m) (xs ++ news) ∧ w.grownBy w' v.ownBlock ∧
      (v'.ownBlock = v.ownBlock ∨ v'.ownBlock = some w.heap.size) ∧ (v' = .slice none 0 0 → v = .slice none 0 0) := by
  by_cases hn : news = []
  · subst hn
    have hm : m = 0 := by
      rcases Nat.eq_zero_or_pos m with h | h
      · exact h
      · have := Nat.mul_pos h hsz; simp at hl; omega
    subst hm
    cases A with
    | none =>
      refine ⟨v, w, ?_, by simpa using hown, World.grownBy.refl w _, .inl rfl, id⟩
      rcases hown.2 with ⟨rfl, rfl⟩ | ⟨g, cap, cur, rfl, _, _, hnc, _⟩
      · simp [Builtin.append_, run_underlying ht, sizeOf, typeInfo, hi, Builtin.lenOf, Builtin.firstCells]
      · simp [Builtin.append_, run_underlying ht, sizeOf, typeInfo, hi, Builtin.lenOf, Builtin.firstCells, hnc, storeCells]
    | some ad =>
      obtain ⟨v', w', hrun, h2, h3, h4, h5⟩ := run_append_own_at (P := P) w base t ty e i z size bytes ht hi hz hsize hby hzs hsz v n xs hown ad 0 c [] (by simp) (fun j u hu => by simp at hu) (fun u hu => by cases hu) (by omega) (by simpa using hbytes) hbase
      exact ⟨v', w', hrun, h2, h3, h5, fun e => (h4.1 e).1⟩
  · obtain ⟨ad, rfl, _, _, hc⟩ := hr hn
    obtain ⟨v', w', hrun, h2, h3, h4, h5⟩ := run_append_own_at (P := P) w base t ty e i z size bytes ht hi hz hsize hby hzs hsz v n xs hown ad m c news hl hc h1 h63 hbytes hbase
    exact ⟨v', w', hrun, h2, h3, h5, fun e => (h4.1 e).1⟩

theorem wp_app {o : Oper} {a : Act} {K : Act → World → Prop} {Q : Exit → Act → World → Prop} (s x : Operand) (t : TypeId)
    (ho : o.op = .call { callee := .builtin .append, args := #[s, x], argTypes := #[t, t] })
    (base : Nat) (e : TypeId) (i : TypeInfo) (z : Value) (size bytes : Nat) (ht : P.underlying t = some (.slice e)) (hi : P.info? e = some i) (hz : i.zero = some z)
    (hsize : i.size = size) (hby : i.bytes = bytes) (hzs : z.cells.size = size) (hsz : 0 < size)
    (v : Value) (n : Nat) (xs : List Value) (hs : a.eval s = v) (hown : w.ownsRow base e size v n xs)
    (G : Nat → Prop) (A : Option Addr) (m c : Nat) (news : List Value) (hx : a.eval x = .slice A m c) (hl : news.length = m * size) (hr : Rd w G A news) (h1 : ∀ u ∈ news, u.oneCell' = true)
    (h63 : n + m ≤ maxLen) (hbytes : (n + m) * bytes ≤ 140737488355328) (hbase : base ≤ w.heap.size)
    (h : ∀ v' w', w'.ownsRow base e size v' (n + m) (xs ++ news) → w.grownBy w' v.ownBlock → (v'.ownBlock = v.ownBlock ∨ v'.ownBlock = some w.heap.size) → (v' = .slice none 0 0 → v = .slice none 0 0) → K (a.put o.dst v') w') : o.wp P a w K Q := by
  obtain ⟨v', w', hrun, h2, h3, h4, h5⟩ := run_app (P := P) w base t o.type e i z size bytes ht hi hz hsize hby hzs hsz v n xs hown G A m c news hl hr h1 h63 hbytes hbase
  unfold Oper.wp execOp
  simp only [ho, resolve, invoke, builtin, Sem.run_bind, Sem.run_pure, Result.andThen_ok, List.map_toArray, List.map_cons, List.map_nil, hs, hx, hrun]
  exact h v' w' h2 h3 h4 h5

theorem wpList_app {ops : Array Oper} {rest : List Oper} {o : Oper} {a : Act} {Q : Exit → Act → World → Prop} (hgd : o.guard = none) (s x : Operand) (t : TypeId)
    (ho : o.op = .call { callee := .builtin .append, args := #[s, x], argTypes := #[t, t] })
    (base : Nat) (e : TypeId) (i : TypeInfo) (z : Value) (size bytes : Nat) (ht : P.underlying t = some (.slice e)) (hi : P.info? e = some i) (hz : i.zero = some z)
    (hsize : i.size = size) (hby : i.bytes = bytes) (hzs : z.cells.size = size) (hsz : 0 < size)
    (v : Value) (n : Nat) (xs : List Value) (hs : a.eval s = v) (hown : w.ownsRow base e size v n xs)
    (G : Nat → Prop) (A : Option Addr) (m c : Nat) (news : List Value) (hx : a.eval x = .slice A m c) (hl : news.length = m * size) (hr : Rd w G A news) (h1 : ∀ u ∈ news, u.oneCell' = true)
    (h63 : n + m ≤ maxLen) (hbytes : (n + m) * bytes ≤ 140737488355328) (hbase : base ≤ w.heap.size)
    (h : ∀ v' w', w'.ownsRow base e size v' (n + m) (xs ++ news) → w.grownBy w' v.ownBlock → (v'.ownBlock = v.ownBlock ∨ v'.ownBlock = some w.heap.size) → (v' = .slice none 0 0 → v = .slice none 0 0) → wpList P ops Q rest (a.put o.dst v') w') : wpList P ops Q (o :: rest) a w :=
  wpList_plain hgd fun _ hK => wp_app w s x t ho base e i z size bytes ht hi hz hsize hby hzs hsz v n xs hs hown G A m c news hx hl hr h1 h63 hbytes hbase fun v' w' h2 h3 h4 h5 => hK _ _ (h v' w' h2 h3 h4 h5)

/-- The same in a region that draws its order. -/
theorem step_app {ops : Array Oper} {o : Oper} {a : Act} {K : Act → World → Prop} {Q : Exit → Act → World → Prop} {E : Prop} (hgd : o.guard = none) (s x : Operand) (t : TypeId)
    (ho : o.op = .call { callee := .builtin .append, args := #[s, x], argTypes := #[t, t] })
    (base : Nat) (e : TypeId) (i : TypeInfo) (z : Value) (size bytes : Nat) (ht : P.underlying t = some (.slice e)) (hi : P.info? e = some i) (hz : i.zero = some z)
    (hsize : i.size = size) (hby : i.bytes = bytes) (hzs : z.cells.size = size) (hsz : 0 < size)
    (v : Value) (n : Nat) (xs : List Value) (hs : a.eval s = v) (hown : w.ownsRow base e size v n xs)
    (G : Nat → Prop) (A : Option Addr) (m c : Nat) (news : List Value) (hx : a.eval x = .slice A m c) (hl : news.length = m * size) (hr : Rd w G A news) (h1 : ∀ u ∈ news, u.oneCell' = true)
    (h63 : n + m ≤ maxLen) (hbytes : (n + m) * bytes ≤ 140737488355328) (hbase : base ≤ w.heap.size)
    (h : ∀ v' w', w'.ownsRow base e size v' (n + m) (xs ++ news) → w.grownBy w' v.ownBlock → (v'.ownBlock = v.ownBlock ∨ v'.ownBlock = some w.heap.size) → (v' = .slice none 0 0 → v = .slice none 0 0) → K (a.put o.dst v') w') :
    if Region.wanted o (yielded ops a.tmps) = true then Oper.wp P o a w K Q else E := by
  have hw : Region.wanted o (yielded ops a.tmps) = true := by simp [Region.wanted, hgd]
  rw [if_pos hw]
  exact wp_app w s x t ho base e i z size bytes ht hi hz hsize hby hzs hsz v n xs hs hown G A m c news hx hl hr h1 h63 hbytes hbase h
end

theorem owns_keep {w w' : World} {base : Nat} {e : TypeId} {size n : Nat} {v : Value} {xs : List Value} (h : w.ownsRow base e size v n xs) (hk : ∀ g, v.ownBlock = some g → w'.heap[g]? = w.heap[g]?) : w'.ownsRow base e size v n xs := by
  refine ⟨h.1, ?_⟩
  rcases h.2 with hn | ⟨g, cap, cur, rfl, hb, hg, rest⟩
  · exact .inl hn
  · exact .inr ⟨g, cap, cur, rfl, hb, (hk g rfl).trans hg, rest⟩
/-- A block that was just laid reads as its cells. -/
theorem Rd.fresh (W : World) (cs : List Value) (t : TypeId) (n : Nat) (hn : n = W.heap.size) : Rd (W.alloc (.cells cs.toArray t)) (fun b => b = n) (some ⟨n, 0, none⟩) cs := fun _ => by
  subst hn
  refine ⟨_, rfl, by simp, rfl, fun j u hu => ?_⟩
  rw [Addr.add_lit, Nat.zero_add, World.cell?_alloc_new]
  simpa using hu
/-- A slice of one's own, as bytes. -/
theorem Bs.own {w : World} {base : Nat} {e : TypeId} {v : Value} {l : List UInt8} (h : w.ownsRow base e 1 v l.length (by8 l)) : Bs w (fun i => base ≤ i) v l := by
  rcases h.2 with ⟨hv, h0⟩ | ⟨g, cap, cur, hv, hb, hg, hnc, hcm, hcs, ht⟩
  · have hz : l = [] := List.eq_nil_of_length_eq_zero h0
    subst hz
    exact ⟨none, 0, hv, Nat.le_refl _, Nat.zero_le _, Rd.none_ _ _ _⟩
  · refine ⟨some ⟨g, 0, none⟩, cap, hv, hnc, hcm, ?_⟩
    rw [hv] at h
    refine (Rd.own h).mono fun i _ hi => ?_
    have : g = i := by simpa [Value.ownBlock] using hi
    omega
end Me
theorem own_slice {base : Nat} {w : World} {v : Value} {e : TypeId} {s n : Nat} {xs : List Value} (h : w.ownsRow base e s v n xs) : ∃ A n c, v = .slice A n c := by
  rcases h.2 with ⟨rfl, _⟩ | ⟨g', cap, cur, rfl, _⟩
  · exact ⟨_, _, _, rfl⟩
  · exact ⟨_, _, _, rfl⟩
theorem lowBox' {w W : World} {o : Obj} (h : Below (w.heap.size + 1) (w.alloc o) W) : Below w.heap.size w W := ((Below.refl _ _).alloc (Nat.le_refl _) _).trans (h.mono (Nat.le_succ _))
end Go.Proofs.YtbhfapbhlkgmfaaDoor

namespace Go.Proofs.YtbhfapbhlkgmfaaDoor
open Go.RowKit
open Me

namespace Vf
def BsC (w : World) (G : Nat → Prop) (b : List UInt8) (cs : List Value) : Prop := ∃ v, cs = [v] ∧ Bs w G v b
theorem BsC.one {w : World} {G : Nat → Prop} : ∀ b cs, BsC w G b cs → cs.length = 1 := by
  rintro b cs ⟨v, rfl, _⟩; rfl
/-- A slice of slices of bytes. -/
def Ps (w : World) (G : Nat → Prop) (v : Value) (l : List (List UInt8)) : Prop := ∃ A c xs, v = .slice A l.length c ∧ l.length ≤ c ∧ c ≤ maxLen ∧ Rd w G A xs ∧ Els (BsC w G) l xs
theorem BsC.keep {w w' : World} {G : Nat → Prop} (hs : w.heap.size ≤ w'.heap.size) (hk : ∀ i, i < w.heap.size → G i → w'.heap[i]? = w.heap[i]?) (b : List UInt8) (cs : List Value) (h : BsC w G b cs) : BsC w' G b cs := by
  obtain ⟨v, e, hb⟩ := h
  exact ⟨v, e, hb.keep hs hk⟩
theorem Ps.keep {w w' : World} {G : Nat → Prop} {v : Value} {l : List (List UInt8)} (h : Ps w G v l) (hs : w.heap.size ≤ w'.heap.size) (hk : ∀ i, i < w.heap.size → G i → w'.heap[i]? = w.heap[i]?) : Ps w' G v l := by
  obtain ⟨A, c, xs, e, h1, h2, h3, h4⟩ := h
  exact ⟨A, c, xs, e, h1, h2, h3.keep hs hk, h4.mono fun b cs hb => hb.keep hs hk⟩
theorem flat_take (l : List (List UInt8)) (k : Nat) (h : k < l.length) : (l.take (k + 1)).flatten = (l.take k).flatten ++ l[k] := by
  rw [List.take_succ_eq_append_getElem h, List.flatten_append]
  simp
theorem flat_le (l : List (List UInt8)) (k : Nat) : (l.take k).flatten.length ≤ l.flatten.length := by
  conv => rhs; rw [← List.take_append_drop k l]
  rw [List.flatten_append, List.length_append]
  omega
/-- What a function that makes bytes hands back. -/
def Made (w : World) (l : List UInt8) (e : Ending) (w' : World) : Prop := ∃ v, e = .returned v ∧ Bs w' (fun i => w.heap.size ≤ i) v l ∧ Below w.heap.size w w'
end Vf

end Go.Proofs.YtbhfapbhlkgmfaaDoor

namespace Go.Proofs.YtbhfapbhlkgmfaaDoor
open Go.RowKit
open Me

namespace Vf
theorem FlC.keep {w w' : World} {G : Nat → Prop} (hs : w.heap.size ≤ w'.heap.size) (hk : ∀ i, i < w.heap.size → G i → w'.heap[i]? = w.heap[i]?) (f : Fl) (cs : List Value) (h : FlC w G f cs) : FlC w' G f cs := by
  obtain ⟨v, e, hb⟩ := h
  exact ⟨v, e, hb.keep hs hk⟩
theorem FlC.wide {w : World} {G G' : Nat → Prop} (hG : ∀ i, i < w.heap.size → G i → G' i) (f : Fl) (cs : List Value) (h : FlC w G f cs) : FlC w G' f cs := by
  obtain ⟨v, e, hb⟩ := h
  exact ⟨v, e, hb.mono hG⟩
theorem FlC.cellOne {w : World} {G : Nat → Prop} {f : Fl} {cs : List Value} (h : FlC w G f cs) : ∀ u ∈ cs, u.oneCell' = true := by
  obtain ⟨v, rfl, A, c, rfl, _⟩ := h
  intro u hu
  simp at hu
  rcases hu with rfl | rfl <;> rfl
/-- What a function that makes files hands back: old bytes of G, or new blocks. -/
def MadeF (G : Nat → Prop) (w : World) (l : List Fl) (e : Ending) (w' : World) : Prop := ∃ v, e = .returned v ∧ Fs w' (fun i => G i ∨ w.heap.size ≤ i) v l ∧ Below w.heap.size w w'
/-- An act as its cells. -/
def AcC (w : World) (G : Nat → Prop) (a : Ac) (cs : List Value) : Prop := ∃ v, cs = [.int .i64 a.kind, .string ⟨a.name.toArray⟩, .int .i64 (a.off : Int), v] ∧ Bs w G v a.p
/-- May it be done: what is written lies within the file. -/
def fits (l : List Fl) (a : Ac) : Prop := a.kind = 2 → ∀ (k : Nat) (h : k < l.length), (k : Int) = ix l a.name → a.off + a.p.length ≤ l[k].b.length
/-- The slice of one's own, as files. -/
theorem Fs.own {w : World} {base : Nat} {e : TypeId} {v : Value} {l : List Fl} {xs : List Value} {G : Nat → Prop} (h : w.ownsRow base e 2 v l.length xs) (hG : ∀ i, base ≤ i → G i) (hE : Els (FlC w G) l xs) : Fs w G v l := by
  have h0 := h
  rcases h.2 with ⟨hv, hz⟩ | ⟨g, cap, cur, hv, hb, hg, hnc, hcm, hcs, ht⟩
  · have hl : l = [] := List.eq_nil_of_length_eq_zero hz
    subst hl
    exact ⟨none, 0, xs, hv, Nat.le_refl _, Nat.zero_le _, by rw [show xs = [] from hE]; exact Rd.none_ _ _ _, hE⟩
  · refine ⟨some ⟨g, 0, none⟩, cap, xs, hv, hnc, hcm, ?_, hE⟩
    rw [hv] at h0
    refine (Rd.own h0).mono fun i _ hi => ?_
    have : g = i := by simpa [Value.ownBlock] using hi
    exact hG i (by omega)
end Vf

/-- One file more, in a row of the call's own, beside bytes in the blocks of J. -/
theorem rel_next {wr W w1 : World} {mv v1 : Value} {B0 : Nat} {ys cs : List Value} {gs : List Vf.Fl} {f : Vf.Fl} {G I J : Nat → Prop}
    (hrow : ∀ g, mv.ownBlock = some g → ¬ I g) (hys : Els (Vf.FlC wr I) gs ys)
    (hWs : wr.heap.size ≤ W.heap.size) (hW : ∀ b, b < wr.heap.size → mv.ownBlock ≠ some b → W.heap[b]? = wr.heap[b]?)
    (hg1 : W.grownBy w1 mv.ownBlock) (hat1 : v1.ownBlock = mv.ownBlock ∨ v1.ownBlock = some W.heap.size)
    (hJ : ∀ b, J b → b < W.heap.size ∧ (G b ∨ B0 ≤ b)) (hJrow : ∀ g, mv.ownBlock = some g → ¬ J g) (hIJ : ∀ b, I b → J b) (hf : Vf.FlC W J f cs) :
    Els (Vf.FlC w1 J) (gs ++ [f]) (ys ++ cs) ∧ (∀ b, J b → b < w1.heap.size ∧ (G b ∨ B0 ≤ b)) ∧ (∀ g, v1.ownBlock = some g → ¬ J g) := by
  have k2 : ∀ i, i < W.heap.size → J i → w1.heap[i]? = W.heap[i]? := fun i hi hj => hg1.block i hi (fun e => hJrow i e.symm hj)
  refine ⟨Els.append (hys.mono fun f cs h => ?_) (Els.one (hf.keep hg1.size k2)), fun b hb => ⟨Nat.lt_of_lt_of_le (hJ b hb).1 hg1.size, (hJ b hb).2⟩, fun g hg hj => ?_⟩
  · have h1 := h.keep (w' := W) hWs (fun i hi hii => hW i hi (fun e => hrow i e hii))
    exact (h1.wide (fun i _ hii => hIJ i hii)).keep hg1.size k2
  · rcases hat1 with e | e
    · exact hJrow g (e ▸ hg) hj
    · rw [e] at hg
      have := (hJ g hj).1
      have := Option.some.inj hg
      omega

theorem splice_take {α : Type} {L cs : List α} {off n : Nat} (h : off + cs.length ≤ n) (hn : n ≤ L.length) : (splice L off cs).take n = (L.take n).take off ++ (cs ++ (L.take n).drop (off + cs.length)) := by
  unfold splice
  have e1 : (L.take off).take n = L.take off := List.take_of_length_le (by rw [List.length_take]; omega)
  have e0 : (L.take off).length = off := by rw [List.length_take]; omega
  have e2 : cs.take (n - off) = cs := List.take_of_length_le (by omega)
  rw [List.take_append, e1, e0, List.take_append, e2, List.take_take, Nat.min_eq_left (by omega), List.drop_take]
  congr 3
  omega
theorem by8_take (l : List UInt8) (k : Nat) : (by8 l).take k = by8 (l.take k) := by unfold by8; simp
theorem by8_drop (l : List UInt8) (k : Nat) : (by8 l).drop k = by8 (l.drop k) := by unfold by8; simp
theorem bytes_spliced {W : World} {g cap off : Nat} {e : TypeId} {L : List Value} {b p : List UInt8} (hh : W.heap[g]? = some (.cells (splice L off (by8 p)).toArray e (0, 0))) (htk : L.take b.length = by8 b)
    (hL : b.length ≤ L.length) (hoff : off + p.length ≤ b.length) (hc : b.length ≤ cap) (hcm : cap ≤ maxLen) : Bs W (fun i => i = g) (.slice (some ⟨g, 0, none⟩) b.length cap) (Vf.upd b off p) := by
  have hl := Vf.upd_len hoff
  refine ⟨some ⟨g, 0, none⟩, cap, by rw [hl], by rw [hl]; exact hc, hcm, fun _ => ⟨_, rfl, (Array.getElem?_eq_some_iff.1 hh).1, rfl, fun j u hu => ?_⟩⟩
  have hj : j < b.length := by
    have := (List.getElem?_eq_some_iff.1 hu).1
    rwa [by8_len, hl] at this
  rw [Addr.add_lit, Nat.zero_add, cell_of_row W g j _ e (0, 0) hh, List.getElem?_toArray]
  have e1 : (splice L off (by8 p)).take b.length = by8 (Vf.upd b off p) := by
    rw [splice_take (by rw [by8_len]; exact hoff) hL, htk, by8_len, by8_take, by8_drop]
    unfold Vf.upd
    rw [List.append_assoc, by8_append, by8_append]
  rw [← e1, List.getElem?_take, if_pos hj] at hu
  exact hu

theorem owns_empty (w : World) (e : TypeId) (n : Nat) (hn : n = w.heap.size) : (w.alloc (.cells #[] e)).ownsRow n e 1 (.slice (some ⟨n, 0, none⟩) 0 0) 0 [] := by
  subst hn
  exact ⟨by simp, .inr ⟨w.heap.size, 0, #[], rfl, Nat.le_refl _, heap_alloc_new w _, Nat.le_refl _, Nat.zero_le _, rfl, by simp⟩⟩
theorem rd_two {w : World} {G : Nat → Prop} {A : Option Addr} {xs : List Value} (h : Rd w G A xs) (o o' : Obj) : Rd ((w.alloc o).alloc o') G A xs :=
  (h.keep (w' := w.alloc o) (by simp) (fun i hi _ => Below.heap_alloc w o i hi)).keep (by simp) (fun i hi _ => Below.heap_alloc _ o' i hi)

end Go.Proofs.YtbhfapbhlkgmfaaDoor

namespace Go.Proofs.YtbhfapbhlkgmfaaDoor
open Go.RowKit
open Me

namespace Vf
structure Sv where
  room : Int
  now : List Fl
  was : List Fl
  l : List Ac
def used (l : List Fl) : Nat := (l.map (·.b.length)).sum
theorem used_take (l : List Fl) (k : Nat) (h : k < l.length) : used (l.take (k + 1)) = used (l.take k) + l[k].b.length := by
  unfold used
  rw [List.take_succ_eq_append_getElem h, List.map_append, List.sum_append]
  simp
theorem used_le (l : List Fl) (k : Nat) : used (l.take k) ≤ used l := by
  unfold used
  conv => rhs; rw [← List.take_append_drop k l]
  rw [List.map_append, List.sum_append]
  omega
theorem AcC.four {w : World} {G : Nat → Prop} : ∀ a cs, AcC w G a cs → cs.length = 4 := by
  rintro a cs ⟨v, rfl, _⟩; rfl
theorem AcC.keep {w w' : World} {G : Nat → Prop} (hs : w.heap.size ≤ w'.heap.size) (hk : ∀ i, i < w.heap.size → G i → w'.heap[i]? = w.heap[i]?) (a : Ac) (cs : List Value) (h : AcC w G a cs) : AcC w' G a cs := by
  obtain ⟨v, e, hb⟩ := h
  exact ⟨v, e, hb.keep hs hk⟩
theorem AcC.wide {w : World} {G G' : Nat → Prop} (hG : ∀ i, i < w.heap.size → G i → G' i) (a : Ac) (cs : List Value) (h : AcC w G a cs) : AcC w G' a cs := by
  obtain ⟨v, e, hb⟩ := h
  exact ⟨v, e, hb.mono hG⟩
theorem Fs.keep {w w' : World} {G : Nat → Prop} {v : Value} {l : List Fl} (h : Fs w G v l) (hs : w.heap.size ≤ w'.heap.size) (hk : ∀ i, i < w.heap.size → G i → w'.heap[i]? = w.heap[i]?) : Fs w' G v l := by
  obtain ⟨A, c, xs, e, h1, h2, h3, h4⟩ := h
  exact ⟨A, c, xs, e, h1, h2, h3.keep hs hk, h4.mono fun f cs hc => hc.keep hs hk⟩
theorem Fs.wide {w : World} {G G' : Nat → Prop} {v : Value} {l : List Fl} (h : Fs w G v l) (hG : ∀ i, i < w.heap.size → G i → G' i) : Fs w G' v l := by
  obtain ⟨A, c, xs, e, h1, h2, h3, h4⟩ := h
  exact ⟨A, c, xs, e, h1, h2, h3.mono hG, h4.mono fun f cs hc => hc.wide hG⟩
/-- The object at block fs, its row of acts in block lr, all else in blocks of G. -/
structure At (w : World) (G : Nat → Prop) (fs : Nat) (lr : Option Nat) (S : Sv) (nv wv lv : Value) (ys : List Value) : Prop where
  heap : w.heap[fs]? = some (.cells #[.int .i64 S.room, nv, wv, lv] 26 (0, 0))
  now : Fs w G nv S.now
  was : Fs w G wv S.was
  own : w.ownsRow 0 26 4 lv S.l.length ys
  acts : Els (AcC w G) S.l ys
  row : lv.ownBlock = lr
  gfs : ¬ G fs
  glr : ∀ g, lr = some g → ¬ G g ∧ g ≠ fs
  lt : ∀ b, G b → b < w.heap.size
theorem At.cells {w : World} {G : Nat → Prop} {fs : Nat} {lr : Option Nat} {S : Sv} {nv wv lv : Value} {ys : List Value} (h : At w G fs lr S nv wv lv ys) :
    w.cell? ⟨fs, 0, none⟩ = some (.int .i64 S.room) ∧ w.cell? ⟨fs, 1, none⟩ = some nv ∧ w.cell? ⟨fs, 2, none⟩ = some wv ∧ w.cell? ⟨fs, 3, none⟩ = some lv ∧ ∀ i, w.frozen? ⟨fs, i, none⟩ = false := by
  refine ⟨?_, ?_, ?_, ?_, fun i => ?_⟩
  · rw [cell_of_row w fs 0 _ _ _ h.heap]; rfl
  · rw [cell_of_row w fs 1 _ _ _ h.heap]; rfl
  · rw [cell_of_row w fs 2 _ _ _ h.heap]; rfl
  · rw [cell_of_row w fs 3 _ _ _ h.heap]; rfl
  · simp [World.frozen?, h.heap]
theorem At.fsLt {w : World} {G : Nat → Prop} {fs : Nat} {lr : Option Nat} {S : Sv} {nv wv lv : Value} {ys : List Value} (h : At w G fs lr S nv wv lv ys) : fs < w.heap.size := (Array.getElem?_eq_some_iff.1 h.heap).1
end Vf

end Go.Proofs.YtbhfapbhlkgmfaaDoor

namespace Go.Proofs.YtbhfapbhlkgmfaaDoor
open Go.RowKit
open Me

theorem owns_form {w : World} {base : Nat} {e : TypeId} {size n : Nat} {v : Value} {xs : List Value} (h : w.ownsRow base e size v n xs) (hn : 0 < n) : ∃ g cap, v = .slice (some ⟨g, 0, none⟩) n cap := by
  rcases h.2 with ⟨_, h0⟩ | ⟨g, cap, cur, hv, _⟩
  · omega
  · exact ⟨g, cap, hv⟩
theorem heap_put {w : World} {g i : Nat} {cs : Array Value} {t : TypeId} {fr : Nat × Nat} (h : w.heap[g]? = some (.cells cs t fr)) (u : Value) : (w.setCell ⟨g, i, none⟩ u).heap[g]? = some (.cells (cs.setIfInBounds i u) t fr) := by
  simp [World.setCell, Array.getElem?_modify, h]
theorem size_put (w : World) (p : Addr) (u : Value) : (w.setCell p u).heap.size = w.heap.size := by simp [World.setCell]
theorem frozen_old (w : World) (o : Obj) (a : Addr) (h : a.block < w.heap.size) : (w.alloc o).frozen? a = w.frozen? a := World.frozen?_of_block (Below.heap_alloc w o a.block h)

namespace Vf
/-- What an act leaves that is done, and pending. -/
def Done (w : World) (G Gp : Nat → Prop) (fs : Nat) (lr : Option Nat) (S : Sv) (a : Ac) (e : Ending) (w' : World) : Prop :=
  e = .returned (.int .i64 0) ∧ ∃ G' lr' nv' wv' lv' ys', At w' G' fs lr' { S with now := does S.now a, l := S.l ++ [a] } nv' wv' lv' ys' ∧ Kp (fun b => b = fs ∨ lr = some b) w w' ∧
    (∀ b, G' b → G b ∨ Gp b ∨ w.heap.size ≤ b) ∧ (∀ g, lr' = some g → lr = some g ∨ w.heap.size ≤ g)
end Vf

theorem do_end {w w1 W1 w2 : World} {G Gp : Nat → Prop} {fs g2 cap2 cp : Nat} {lr : Option Nat} {S : Vf.Sv} {nv wv lv v1 : Value} {ys : List Value} {a : Vf.Ac} {Ap : Option Addr} {o : Obj}
    (h : Vf.At w G fs lr S nv wv lv ys) (hp : Bs w Gp (.slice Ap a.p.length cp) a.p) (hGp : ∀ b, Gp b → b < w.heap.size ∧ b ≠ fs ∧ lr ≠ some b)
    (hnow : Vf.Fs w1 (fun b => (G b ∨ Gp b) ∨ w.heap.size + 1 ≤ b) v1 (Vf.does S.now a)) (hsz : W1.heap.size = w1.heap.size) (hs1 : w.heap.size + 1 ≤ w1.heap.size)
    (hfsW : W1.heap[fs]? = some (.cells #[.int .i64 S.room, v1, wv, lv] 26 (0, 0))) (hold : ∀ b, b < w.heap.size → b ≠ fs → W1.heap[b]? = w.heap[b]?) (hnew : ∀ b, w.heap.size ≤ b → W1.heap[b]? = w1.heap[b]?)
    (hw1 : ∀ b, b < w.heap.size → w1.heap[b]? = w.heap[b]?) (hos : W1.os = w.os ∧ W1.tape = w.tape ∧ W1.output = w.output)
    (hown2 : w2.ownsRow 0 26 4 (.slice (some ⟨g2, 0, none⟩) (S.l.length + 1) cap2) (S.l.length + 1) (ys ++ [.int .i64 a.kind, .string ⟨a.name.toArray⟩, .int .i64 (a.off : Int), .slice Ap a.p.length cp]))
    (hg2 : (W1.alloc o).grownBy w2 lv.ownBlock) (hat2 : (Value.slice (some ⟨g2, 0, none⟩) (S.l.length + 1) cap2).ownBlock = lv.ownBlock ∨ (Value.slice (some ⟨g2, 0, none⟩) (S.l.length + 1) cap2).ownBlock = some (W1.alloc o).heap.size) :
    Vf.Done w G Gp fs lr S a (.returned (.int .i64 0)) (w2.setCell ⟨fs, 3, none⟩ (.slice (some ⟨g2, 0, none⟩) (S.l.length + 1) cap2)) := by
  have hfl := h.fsLt
  have hob : (Value.slice (some ⟨g2, 0, none⟩) (S.l.length + 1) cap2).ownBlock = some g2 := rfl
  rw [hob] at hat2
  have hasz : (W1.alloc o).heap.size = w1.heap.size + 1 := by simp [hsz]
  rw [hasz] at hat2
  have hs2 := hg2.size
  rw [hasz] at hs2
  have hrow : ∀ g, lv.ownBlock = some g → lr = some g ∧ g < w.heap.size := fun g hg => ⟨h.row ▸ hg, (h.own.lt g hg).2⟩
  have hg2c : (lr = some g2 ∧ g2 < w.heap.size) ∨ g2 = w1.heap.size + 1 := by
    rcases hat2 with e | e
    · exact .inl (hrow g2 e.symm)
    · exact .inr (Option.some.inj e)
  have hg2f : g2 ≠ fs := by
    rcases hg2c with ⟨e, _⟩ | e
    · exact (h.glr g2 e).2
    · omega
  have K2 : ∀ b, b < (W1.alloc o).heap.size → lv.ownBlock ≠ some b → w2.heap[b]? = (W1.alloc o).heap[b]? := fun b hb hn => hg2.block b hb (fun e => hn e.symm)
  have K : ∀ b, b < w1.heap.size → b ≠ fs → lv.ownBlock ≠ some b → (w2.setCell ⟨fs, 3, none⟩ (.slice (some ⟨g2, 0, none⟩) (S.l.length + 1) cap2)).heap[b]? = w1.heap[b]? := fun b hb hn hr => by
    rw [Below.heap_setCell w2 ⟨fs, 3, none⟩ _ b hn, K2 b (by rw [hasz]; omega) hr, Below.heap_alloc W1 o b (by omega)]
    by_cases hbw : b < w.heap.size
    · rw [hold b hbw hn, hw1 b hbw]
    · exact hnew b (by omega)
  have hlvfs : lv.ownBlock ≠ some fs := fun e => (h.glr fs (hrow fs e).1).2 rfl
  have hGr : ∀ b, G b → lv.ownBlock ≠ some b := fun b hb e => (h.glr b (hrow b e).1).1 hb
  have hGf : ∀ b, G b → b ≠ fs := fun b hb e => h.gfs (e ▸ hb)
  have hG2 : ∀ b, G b → b ≠ g2 := fun b hb e => by
    rcases hg2c with ⟨e2, _⟩ | e2
    · exact (h.glr g2 e2).1 (e ▸ hb)
    · have := h.lt b hb; omega
  have hP2 : ∀ b, Gp b → b ≠ g2 := fun b hb e => by
    rcases hg2c with ⟨e2, _⟩ | e2
    · exact (hGp b hb).2.2 (e ▸ e2)
    · have := (hGp b hb).1; omega
  have hsz3 : (w2.setCell ⟨fs, 3, none⟩ (.slice (some ⟨g2, 0, none⟩) (S.l.length + 1) cap2)).heap.size = w2.heap.size := size_put _ _ _
  have KG : ∀ b, b < w.heap.size → G b → (w2.setCell ⟨fs, 3, none⟩ (.slice (some ⟨g2, 0, none⟩) (S.l.length + 1) cap2)).heap[b]? = w.heap[b]? := fun b hb hg => (K b (by omega) (hGf b hg) (hGr b hg)).trans (hw1 b hb)
  have KP : ∀ b, b < w.heap.size → Gp b → (w2.setCell ⟨fs, 3, none⟩ (.slice (some ⟨g2, 0, none⟩) (S.l.length + 1) cap2)).heap[b]? = w.heap[b]? := fun b hb hg => (K b (by omega) (hGp b hg).2.1 (fun e => (hGp b hg).2.2 (hrow b e).1)).trans (hw1 b hb)
  refine ⟨rfl, fun b => (G b ∨ Gp b ∨ w.heap.size ≤ b) ∧ b < w2.heap.size ∧ b ≠ g2, some g2, v1, wv, .slice (some ⟨g2, 0, none⟩) (S.l.length + 1) cap2, ys ++ [.int .i64 a.kind, .string ⟨a.name.toArray⟩, .int .i64 (a.off : Int), .slice Ap a.p.length cp], ?_, ?_, fun b hb => hb.1, ?_⟩
  · refine ⟨?_, ?_, ?_, ?_, ?_, rfl, ?_, ?_, ?_⟩
    · have e1 : w2.heap[fs]? = some (.cells #[.int .i64 S.room, v1, wv, lv] 26 (0, 0)) := by
        rw [K2 fs (by rw [hasz]; omega) hlvfs, Below.heap_alloc W1 o fs (by omega)]
        exact hfsW
      rw [heap_put e1]
      rfl
    · refine (hnow.wide (fun b hb hg => ?_)).keep (by omega) (fun b hb hg => ?_)
      · refine ⟨?_, by omega, ?_⟩
        · rcases hg with (hg | hg) | hg
          · exact .inl hg
          · exact .inr (.inl hg)
          · exact .inr (.inr (by omega))
        · rcases hg with (hg | hg) | hg
          · exact hG2 b hg
          · exact hP2 b hg
          · rcases hg2c with ⟨_, e2⟩ | e2 <;> omega
      · obtain ⟨hg, _, _⟩ := hg
        refine K b hb ?_ ?_
        · rcases hg with hg | hg | hg
          · exact hGf b hg
          · exact (hGp b hg).2.1
          · omega
        · rcases hg with hg | hg | hg
          · exact hGr b hg
          · exact fun e => (hGp b hg).2.2 (hrow b e).1
          · exact fun e => by have := (hrow b e).2; omega
    · exact (h.was.keep (by omega) KG).wide (fun b hb hg => ⟨.inl hg, by rw [hsz3] at hb; exact hb, hG2 b hg⟩)
    · have e : (S.l ++ [a]).length = S.l.length + 1 := by simp
      show World.ownsRow _ 0 _ 4 _ (S.l ++ [a]).length _
      rw [e]
      exact owns_keep hown2 (fun g hg => by
        have : g2 = g := by simpa [Value.ownBlock] using hg
        subst this
        exact Below.heap_setCell w2 ⟨fs, 3, none⟩ _ g2 hg2f)
    · refine Els.append (h.acts.mono fun x cs hx => (hx.keep (by omega) KG).wide (fun b hb hg => ⟨.inl hg, by rw [hsz3] at hb; exact hb, hG2 b hg⟩)) (Els.one ⟨_, rfl, ?_⟩)
      exact (hp.keep (by omega) KP).mono (fun b hb hg => ⟨.inr (.inl hg), by rw [hsz3] at hb; exact hb, hP2 b hg⟩)
    · rintro ⟨hg | hg | hg, _, _⟩
      · exact h.gfs hg
      · exact (hGp fs hg).2.1 rfl
      · omega
    · intro g hg
      have : g2 = g := Option.some.inj hg
      subst this
      exact ⟨fun hx => hx.2.2 rfl, hg2f⟩
    · intro b hb
      rw [hsz3]
      exact hb.2.1
  · refine ⟨?_, ?_, ?_, by omega, fun b hb hn => ?_⟩
    · exact hg2.os.trans hos.1
    · exact hg2.tape.trans hos.2.1
    · exact hg2.output.trans hos.2.2
    · exact (K b (by omega) (fun e => hn (.inl e)) (fun e => hn (.inr (hrow b e).1))).trans (hw1 b hb)
  · intro g hg
    have : g2 = g := Option.some.inj hg
    subst this
    rcases hg2c with ⟨e, _⟩ | e
    · exact .inl e
    · exact .inr (by omega)

end Go.Proofs.YtbhfapbhlkgmfaaDoor

namespace Go.Proofs.YtbhfapbhlkgmfaaDoor
open Go.RowKit
open Me

namespace Vf
/-- The file at a place. -/
theorem Fs.nth {w : World} {G : Nat → Prop} {v : Value} {l : List Fl} (h : Fs w G v l) (k : Nat) (hk : k < l.length) :
    ∃ rb ro c A2 c2, v = .slice (some ⟨rb, ro, none⟩) l.length c ∧ l.length ≤ c ∧ c ≤ maxLen ∧ w.cell? ⟨rb, ro + k * 2, none⟩ = some (.string ⟨(l[k].name).toArray⟩) ∧ w.cell? ⟨rb, ro + k * 2 + 1, none⟩ = some (.slice A2 (l[k].b).length c2) ∧
      Bs w G (.slice A2 (l[k].b).length c2) l[k].b ∧ rb < w.heap.size ∧ G rb := by
  obtain ⟨A, c, xs, rfl, hc, hcm, hrd, hels⟩ := h
  obtain ⟨cs, hcs, hx⟩ := hels.get FlC.two k hk
  have hxl := hels.length FlC.two
  obtain ⟨rb, ro, rfl, hlt, hg, hcell⟩ := hrd.lit (k * 2) (by omega)
  obtain ⟨bv, rfl, hbs⟩ := hcs
  have hb := hbs
  obtain ⟨A2, c2, rfl, _, _, _⟩ := hbs
  refine ⟨rb, ro, c, A2, c2, rfl, hc, hcm, hcell _ _ (hx 0 (by omega)), ?_, hb, hlt, hg⟩
  have := hcell _ _ (hx 1 (by omega))
  rwa [← Nat.add_assoc] at this
theorem ix_at {l : List Fl} {n : List UInt8} (h : ¬ ix l n < 0) : ∃ k : Nat, ix l n = (k : Int) ∧ k < l.length := by
  obtain ⟨h1, h2⟩ := ix_bd l n
  exact ⟨(ix l n).toNat, by omega, by omega⟩
def size (l : List Fl) (n : List UInt8) : Int × Int := if is n = false then (0, 1) else if ix l n < 0 then (0, 5) else (((l.getD (ix l n).toNat ⟨[], []⟩).b.length : Int), 0)
end Vf

theorem ret_two {a b c d : Int} (h : (a, b) = (c, d)) : Ending.returned (.tuple #[.int .i64 a, .int .i64 b]) = .returned (.tuple #[.int .i64 c, .int .i64 d]) := by
  injection h with h1 h2
  rw [h1, h2]

theorem put_heap {w : World} {g i : Nat} {cs : Array Value} {t : TypeId} {fr : Nat × Nat} (h : w.heap[g]? = some (.cells cs t fr)) (u : Value) : (w.setCell ⟨g, i, none⟩ u).heap[g]? = some (.cells (cs.setIfInBounds i u) t fr) := by
  simp [World.setCell, Array.getElem?_modify, h]
theorem put_size (w : World) (p : Addr) (u : Value) : (w.setCell p u).heap.size = w.heap.size := by simp [World.setCell]
theorem sync_end {w : World} {G : Nat → Prop} {fs : Nat} {lr : Option Nat} {S : Vf.Sv} {nv wv lv : Value} {ys : List Value} (h : Vf.At w G fs lr S nv wv lv ys) :
    Vf.At ((w.setCell ⟨fs, 2, none⟩ nv).setCell ⟨fs, 3, none⟩ (.slice none 0 0)) G fs none { S with was := S.now, l := [] } nv nv (.slice none 0 0) [] := by
  have hs : ((w.setCell ⟨fs, 2, none⟩ nv).setCell ⟨fs, 3, none⟩ (.slice none 0 0)).heap.size = w.heap.size := by rw [put_size, put_size]
  have hk : ∀ b, b < w.heap.size → G b → ((w.setCell ⟨fs, 2, none⟩ nv).setCell ⟨fs, 3, none⟩ (.slice none 0 0)).heap[b]? = w.heap[b]? := fun b _ hg => by
    have hne : b ≠ fs := fun e => h.gfs (e ▸ hg)
    rw [Below.heap_setCell _ ⟨fs, 3, none⟩ _ b hne, Below.heap_setCell _ ⟨fs, 2, none⟩ _ b hne]
  refine ⟨?_, h.now.keep (by omega) hk, h.now.keep (by omega) hk, World.ownsRow_nil _ _ _ _, rfl, rfl, h.gfs, (fun g h => nomatch h), fun b hb => by rw [hs]; exact h.lt b hb⟩
  rw [put_heap (put_heap h.heap _)]
  rfl

end Go.Proofs.YtbhfapbhlkgmfaaDoor

namespace Go.Proofs.YtbhfapbhlkgmfaaDoor
open Go.RowKit
open Me

namespace Vf
theorem At.kp {w w' : World} {G O : Nat → Prop} {fs : Nat} {lr : Option Nat} {S : Sv} {nv wv lv : Value} {ys : List Value} (h : At w G fs lr S nv wv lv ys) (k : Kp O w w') (hO : ∀ b, O b → ¬ G b ∧ b ≠ fs ∧ lr ≠ some b) : At w' G fs lr S nv wv lv ys := by
  have hk : ∀ b, b < w.heap.size → G b → w'.heap[b]? = w.heap[b]? := fun b hb hg => k.block b hb (fun o => (hO b o).1 hg)
  refine ⟨(k.block fs h.fsLt (fun o => (hO fs o).2.1 rfl)).trans h.heap, h.now.keep k.size hk, h.was.keep k.size hk, owns_keep h.own (fun g hg => k.block g (h.own.lt g hg).2 (fun o => (hO g o).2.2 (h.row ▸ hg))), h.acts.mono fun x cs hx => hx.keep k.size hk, h.row, h.gfs, h.glr, fun b hb => Nat.lt_of_lt_of_le (h.lt b hb) k.size⟩
theorem At.below {w w' : World} {G : Nat → Prop} {fs : Nat} {lr : Option Nat} {S : Sv} {nv wv lv : Value} {ys : List Value} (h : At w G fs lr S nv wv lv ys) (b : Below w.heap.size w w') : At w' G fs lr S nv wv lv ys :=
  h.kp (O := fun _ => False) (Kp.of_below b) (fun _ o => o.elim)
theorem At.drew {w : World} {G : Nat → Prop} {fs : Nat} {lr : Option Nat} {S : Sv} {nv wv lv : Value} {ys : List Value} (h : At w G fs lr S nv wv lv ys) : At w.drew G fs lr S nv wv lv ys :=
  h.kp (O := fun _ => False) (Kp.refl _ _).drew (fun _ o => o.elim)
def Sv.act (S : Sv) (a : Ac) : Sv := { S with now := does S.now a, l := S.l ++ [a] }
/-- What an act leaves: a number, and the object as it then is. -/
def Next (w : World) (G : Nat → Prop) (fs : Nat) (lr : Option Nat) (R : Sv × Int) (e : Ending) (w' : World) : Prop :=
  e = .returned (.int .i64 R.2) ∧ ∃ G' lr' nv' wv' lv' ys', At w' G' fs lr' R.1 nv' wv' lv' ys' ∧ Kp (fun b => b = fs ∨ lr = some b) w w' ∧
    (∀ b, G' b → G b ∨ w.heap.size ≤ b) ∧ (∀ g, lr' = some g → lr = some g ∨ w.heap.size ≤ g)
theorem Next.no {w w' : World} {G : Nat → Prop} {fs : Nat} {lr : Option Nat} {S : Sv} {nv wv lv : Value} {ys : List Value} (h : At w' G fs lr S nv wv lv ys) (b : Below w.heap.size w w') {R : Sv × Int} {i : Int} (hR : R = (S, i)) : Next w G fs lr R (.returned (.int .i64 i)) w' := by
  subst hR
  exact ⟨rfl, G, lr, nv, wv, lv, ys, h, Kp.of_below b, fun _ hb => .inl hb, fun _ hg => .inl hg⟩
theorem Next.done {w w1 w2 : World} {G Gp : Nat → Prop} {fs : Nat} {lr : Option Nat} {S : Sv} {a : Ac} {e : Ending} (b : Below w.heap.size w w1) (hGp : ∀ i, Gp i → w.heap.size ≤ i) (hd : Done w1 G Gp fs lr S a e w2) {R : Sv × Int} (hR : R = (S.act a, 0)) : Next w G fs lr R e w2 := by
  subst hR
  obtain ⟨rfl, G', lr', nv', wv', lv', ys', h1, h2, h3, h4⟩ := hd
  refine ⟨rfl, G', lr', nv', wv', lv', ys', h1, (Kp.of_below b).trans h2 (fun _ _ o => o), fun i hi => ?_, fun g hg => ?_⟩
  · rcases h3 i hi with h | h | h
    · exact .inl h
    · exact .inr (hGp i h)
    · exact .inr (Nat.le_trans b.size h)
  · rcases h4 g hg with h | h
    · exact .inl h
    · exact .inr (Nat.le_trans b.size h)
def create (S : Sv) (n b : List UInt8) : Sv × Int := if is n = false then (S, 1) else if 0 ≤ ix S.now n then (S, 6) else if S.room - used S.now < b.length then (S, 4) else (S.act ⟨1, n, 0, b⟩, 0)
def remove (S : Sv) (n : List UInt8) : Sv × Int := if is n = false then (S, 1) else if ix S.now n < 0 then (S, 5) else (S.act ⟨3, n, 0, []⟩, 0)
theorem used_mem {l : List Fl} {f : Fl} (h : f ∈ l) : f.b.length ≤ used l := by
  unfold used
  induction l with
  | nil => cases h
  | cons x r ih =>
    rw [List.map_cons, List.sum_cons]
    rcases List.mem_cons.1 h with rfl | h
    · omega
    · have := ih h; omega
end Vf

theorem ret_i (a : Int) : Ending.returned (.int .i64 a) = .returned (.int .i64 a) := rfl

end Go.Proofs.YtbhfapbhlkgmfaaDoor

namespace Go.Proofs.YtbhfapbhlkgmfaaDoor
open Go.RowKit
open Me

namespace Vf
def lenAt (l : List Fl) (n : List UInt8) : Nat := (l.getD (ix l n).toNat ⟨[], []⟩).b.length
def write (S : Sv) (n : List UInt8) (t : Int) (b : List UInt8) : Sv × Int :=
  if is n = false then (S, 1) else if ix S.now n < 0 then (S, 5) else if t < 0 ∨ (lenAt S.now n : Int) < t ∨ (lenAt S.now n : Int) - t < b.length then (S, 1) else (S.act ⟨2, n, t.toNat, b⟩, 0)
theorem write_one {S : Sv} {n : List UInt8} {t : Int} {b : List UInt8} {k : Nat} (hi : is n = true) (hk : ix S.now n = (k : Int)) (hkl : k < S.now.length) (h : t < 0 ∨ (((S.now[k].b).length : Nat) : Int) < t ∨ (((S.now[k].b).length : Nat) : Int) - t < b.length) : write S n t b = (S, 1) := by
  have hl : lenAt S.now n = (S.now[k].b).length := by unfold lenAt; rw [hk]; simp [hkl]
  unfold write
  rw [if_neg (by simp [hi]), if_neg (by omega), if_pos (by rw [hl]; exact h)]
theorem write_done {S : Sv} {n : List UInt8} {m : Nat} {b : List UInt8} {k : Nat} (hi : is n = true) (hk : ix S.now n = (k : Int)) (hkl : k < S.now.length) (h : m + b.length ≤ (S.now[k].b).length) : write S n (m : Int) b = (S.act ⟨2, n, m, b⟩, 0) := by
  have hl : lenAt S.now n = (S.now[k].b).length := by unfold lenAt; rw [hk]; simp [hkl]
  unfold write
  rw [if_neg (by simp [hi]), if_neg (by omega), if_neg (by rw [hl]; omega)]
  simp
end Vf

end Go.Proofs.YtbhfapbhlkgmfaaDoor

namespace Go.Proofs.YtbhfapbhlkgmfaaDoor
open Go.RowKit
open Me

namespace Vf
/-- Acts done one after another. -/
def rep (was : List Fl) (l : List Ac) : List Fl := l.foldl does was
theorem rep_take (was : List Fl) (l : List Ac) (k : Nat) (h : k < l.length) : rep was (l.take (k + 1)) = does (rep was (l.take k)) l[k] := by
  unfold rep
  rw [List.take_succ_eq_append_getElem h, List.foldl_append]
  rfl
/-- How much of a torn write is done. -/
def torn (a : Ac) (m : Int) : Nat := (max 0 (min m (a.p.length : Int))).toNat
def cut (a : Ac) (m : Int) : Ac := { a with p := a.p.take (torn a m) }
def crash (S : Sv) (n m : Int) : List Fl := match S.l[n.toNat]? with
  | some a => if a.kind = 2 then does (rep S.was (S.l.take n.toNat)) (cut a m) else rep S.was (S.l.take n.toNat)
  | none => rep S.was S.l
theorem crash_all {S : Sv} {n m : Int} (h : S.l.length ≤ n.toNat) : crash S n m = rep S.was S.l := by
  unfold crash
  rw [List.getElem?_eq_none h]
theorem crash_clean {S : Sv} {n m : Int} {k : Nat} (hk : n.toNat = k) (h : k < S.l.length) (hn : ¬ S.l[k].kind = 2) : crash S n m = rep S.was (S.l.take k) := by
  subst hk
  unfold crash
  rw [List.getElem?_eq_getElem h]
  simp [hn]
theorem crash_torn {S : Sv} {n m : Int} {k : Nat} (hk : n.toNat = k) (h : k < S.l.length) (hn : S.l[k].kind = 2) : crash S n m = does (rep S.was (S.l.take k)) (cut S.l[k] m) := by
  subst hk
  unfold crash
  rw [List.getElem?_eq_getElem h]
  simp [hn]
/-- All that a replay meets is fit to be done. -/
def Sound (S : Sv) : Prop := ∀ k, k ≤ S.l.length → (rep S.was (S.l.take k)).length ≤ 1048576 ∧ (∀ f ∈ rep S.was (S.l.take k), f.b.length ≤ 4294967296) ∧ ∀ h : k < S.l.length, fits (rep S.was (S.l.take k)) S.l[k] ∧ S.l[k].off ≤ 4294967296
theorem fits_cut {l : List Fl} {a : Ac} (m : Int) (h : fits l a) : fits l (cut a m) := by
  intro hk k hkl e
  have := h hk k hkl e
  have h2 : (cut a m).p.length ≤ a.p.length := by unfold cut; simp; omega
  have h3 : (cut a m).off = a.off := rfl
  omega
theorem _root_.Go.Proofs.YtbhfapbhlkgmfaaDoor.Me.Bs.take {w : World} {G : Nat → Prop} {A : Option Addr} {n c : Nat} {l : List UInt8} (h : Bs w G (.slice A n c) l) (d : Nat) (hd : d ≤ l.length) : Bs w G (.slice A d c) (l.take d) := by
  obtain ⟨A2, c2, e, h1, h2, h3⟩ := h
  injection e with e1 e2 e3
  subst e1 e3
  refine ⟨A, c, by rw [List.length_take, Nat.min_eq_left hd], by rw [List.length_take]; omega, h2, fun hn => ?_⟩
  obtain ⟨ad, ea, hl, hg, hc⟩ := h3 (by rintro e; apply hn; unfold by8 at e ⊢; rw [List.map_take, e]; simp)
  refine ⟨ad, ea, hl, hg, fun j u hu => hc j u ?_⟩
  rw [← by8_take, List.getElem?_take] at hu
  split at hu
  · exact hu
  · cases hu
/-- An act in its place. -/
theorem At.nth {w : World} {G : Nat → Prop} {fs : Nat} {lr : Option Nat} {S : Sv} {nv wv lv : Value} {ys : List Value} (h : At w G fs lr S nv wv lv ys) (k : Nat) (hk : k < S.l.length) :
    ∃ g cap A2 c2, lv = .slice (some ⟨g, 0, none⟩) S.l.length cap ∧ S.l.length ≤ cap ∧ cap ≤ maxLen ∧ g < w.heap.size ∧ w.cell? ⟨g, k * 4, none⟩ = some (.int .i64 S.l[k].kind) ∧ w.cell? ⟨g, k * 4 + 1, none⟩ = some (.string ⟨(S.l[k].name).toArray⟩) ∧ w.cell? ⟨g, k * 4 + 2, none⟩ = some (.int .i64 (S.l[k].off : Int)) ∧
      w.cell? ⟨g, k * 4 + 3, none⟩ = some (.slice A2 (S.l[k].p).length c2) ∧ Bs w G (.slice A2 (S.l[k].p).length c2) S.l[k].p := by
  have hown := h.own
  rcases h.own.2 with ⟨_, h0⟩ | ⟨g, cap, cur, rfl, hb, hg, hnc, hcm, hcs, ht⟩
  · omega
  · obtain ⟨cs, hcs4, hx⟩ := h.acts.get AcC.four k hk
    obtain ⟨pv, rfl, hbs⟩ := hcs4
    have hb2 := hbs
    obtain ⟨A2, c2, rfl, _, _, _⟩ := hbs
    have hlen : ys.length = S.l.length * 4 := hown.1
    obtain ⟨ad, hA, hlt, _, hcell⟩ := (Rd.own hown).at_ (k * 4) (by omega)
    obtain rfl := Option.some.inj hA
    have hc : ∀ j u, ([.int .i64 S.l[k].kind, .string ⟨(S.l[k].name).toArray⟩, .int .i64 (S.l[k].off : Int), .slice A2 (S.l[k].p).length c2] : List Value)[j]? = some u → j < 4 → w.cell? ⟨g, k * 4 + j, none⟩ = some u := fun j u hu hj => by
      have := hcell (k * 4 + j) u ((hx j hj).trans hu)
      rwa [Addr.add_lit, Nat.zero_add] at this
    exact ⟨g, cap, A2, c2, rfl, hnc, hcm, hlt, hc 0 _ rfl (by omega), hc 1 _ rfl (by omega), hc 2 _ rfl (by omega), hc 3 _ rfl (by omega), hb2⟩
end Vf

theorem crash_end {w W : World} {G : Nat → Prop} {fs : Nat} {lr : Option Nat} {S : Vf.Sv} {nv wv lv v : Value} {ys : List Value} {r : List Vf.Fl} (h : Vf.At w G fs lr S nv wv lv ys) (hb : Below w.heap.size w W) (hr : Vf.Fs W (fun b => G b ∨ w.heap.size ≤ b) v r) :
    ∃ G', Vf.At (((W.setCell ⟨fs, 1, none⟩ v).setCell ⟨fs, 2, none⟩ v).setCell ⟨fs, 3, none⟩ (.slice none 0 0)) G' fs none ⟨S.room, r, r, []⟩ v v (.slice none 0 0) [] ∧ Kp (fun b => b = fs) w (((W.setCell ⟨fs, 1, none⟩ v).setCell ⟨fs, 2, none⟩ v).setCell ⟨fs, 3, none⟩ (.slice none 0 0)) ∧ ∀ b, G' b → G b ∨ w.heap.size ≤ b := by
  have hfl := h.fsLt
  have hw := hb.size
  have hs : (((W.setCell ⟨fs, 1, none⟩ v).setCell ⟨fs, 2, none⟩ v).setCell ⟨fs, 3, none⟩ (.slice none 0 0)).heap.size = W.heap.size := by rw [put_size, put_size, put_size]
  have hk : ∀ b, b < W.heap.size → (G b ∨ w.heap.size ≤ b) ∧ b < W.heap.size → (((W.setCell ⟨fs, 1, none⟩ v).setCell ⟨fs, 2, none⟩ v).setCell ⟨fs, 3, none⟩ (.slice none 0 0)).heap[b]? = W.heap[b]? := fun b _ hg => by
    have hne : b ≠ fs := by
      rcases hg.1 with h1 | h1
      · exact fun e => h.gfs (e ▸ h1)
      · omega
    rw [Below.heap_setCell _ ⟨fs, 3, none⟩ _ b hne, Below.heap_setCell _ ⟨fs, 2, none⟩ _ b hne, Below.heap_setCell _ ⟨fs, 1, none⟩ _ b hne]
  have hr2 := (hr.wide (G' := fun b => (G b ∨ w.heap.size ≤ b) ∧ b < W.heap.size) (fun b hb' hg => ⟨hg, hb'⟩)).keep (by omega) hk
  refine ⟨fun b => (G b ∨ w.heap.size ≤ b) ∧ b < W.heap.size, ⟨?_, hr2, hr2, World.ownsRow_nil _ _ _ _, rfl, rfl, ?_, (fun g h => nomatch h), fun b hb' => by rw [hs]; exact hb'.2⟩, (((Kp.of_below (O := fun b => b = fs) hb).setCell ⟨fs, 1, none⟩ (.inr rfl) _).setCell ⟨fs, 2, none⟩ (.inr rfl) _).setCell ⟨fs, 3, none⟩ (.inr rfl) _, fun b hb' => hb'.1⟩
  · rw [put_heap (put_heap (put_heap ((hb.block fs hfl).trans h.heap) _) _)]
    rfl
  · rintro ⟨h1 | h1, _⟩
    · exact h.gfs h1
    · omega

/-- What a crash leaves. -/
def Vf.Crashed (w : World) (G : Nat → Prop) (fs : Nat) (S : Vf.Sv) (r : List Vf.Fl) (e : Ending) (w' : World) : Prop :=
  e = .returned (.tuple #[]) ∧ ∃ G' v, Vf.At w' G' fs none ⟨S.room, r, r, []⟩ v v (.slice none 0 0) [] ∧ Kp (fun b => b = fs) w w' ∧ ∀ b, G' b → G b ∨ w.heap.size ≤ b
theorem crash_done {w W : World} {G : Nat → Prop} {fs : Nat} {lr : Option Nat} {S : Vf.Sv} {nv wv lv v : Value} {ys : List Value} {r r' : List Vf.Fl} (h : Vf.At w G fs lr S nv wv lv ys) (hb : Below w.heap.size w W) (hr : Vf.Fs W (fun b => G b ∨ w.heap.size ≤ b) v r) (e : r' = r) :
    Vf.Crashed w G fs S r' (.returned (.tuple #[])) (((W.setCell ⟨fs, 1, none⟩ v).setCell ⟨fs, 2, none⟩ v).setCell ⟨fs, 3, none⟩ (.slice none 0 0)) := by
  subst e
  obtain ⟨G', p1, p2, p3⟩ := crash_end h hb hr
  exact ⟨rfl, G', v, p1, p2, p3⟩

end Go.Proofs.YtbhfapbhlkgmfaaDoor

namespace Go.Proofs.YtbhfapbhlkgmfaaDoor
namespace Vf

theorem used_append (l m : List Fl) : used (l ++ m) = used l + used m := by unfold used; rw [List.map_append, List.sum_append]
theorem used_cons (f : Fl) (l : List Fl) : used (f :: l) = f.b.length + used l := by unfold used; rw [List.map_cons, List.sum_cons]
theorem used_one (a : Ac) (i : Int) (k : Nat) (x : Fl) (h : (k : Int) = i → a.kind = 2 → a.off + a.p.length ≤ x.b.length) : used (one a i k x) ≤ x.b.length := by
  unfold one
  split
  · rename_i hc
    rw [used_cons]
    show (upd x.b a.off a.p).length + used [] ≤ _
    rw [upd_len (h hc.1 hc.2)]
    simp [used]
  · split
    · simp [used]
    · simp [used]
theorem used_goes (a : Ac) (i : Int) : ∀ (l : List Fl) (k : Nat), (∀ (j : Nat) (hj : j < l.length), ((k + j : Nat) : Int) = i → a.kind = 2 → a.off + a.p.length ≤ l[j].b.length) → used (goes a i k l) ≤ used l
  | [], _, _ => by simp [goes]
  | x :: r, k, h => by
    rw [goes, used_append, used_cons]
    have h1 := used_one a i k x (fun e e2 => by have := h 0 (by simp) (by simpa using e) e2; simpa using this)
    have h2 := used_goes a i r (k + 1) (fun j hj e e2 => by
      have := h (j + 1) (by simpa using hj) (by rw [← e]; congr 1; omega) e2
      simpa using this)
    omega
theorem used_does (l : List Fl) (a : Ac) (h : fits l a) : used (does l a) ≤ used l + (if a.kind = 1 then a.p.length else 0) := by
  unfold does
  rw [used_append]
  have h1 := used_goes a (ix l a.name) l 0 (fun j hj e e2 => h e2 j hj (by simpa using e))
  split
  · rw [used_cons]
    simp [used] at h1 ⊢
    omega
  · simp [used] at h1 ⊢
    omega
/-- What holds of the document's own files when c acts were played. -/
structure Inv (c : Nat) (S : Sv) : Prop where
  room0 : 0 ≤ S.room
  room1 : S.room ≤ 1073741824
  now : S.now = rep S.was S.l
  len : S.l.length ≤ c
  all : ∀ k, k ≤ S.l.length → (rep S.was (S.l.take k)).length ≤ c ∧ (used (rep S.was (S.l.take k)) : Int) ≤ S.room ∧ ∀ h : k < S.l.length, fits (rep S.was (S.l.take k)) S.l[k] ∧ S.l[k].off ≤ 4294967296
theorem Inv.last {c : Nat} {S : Sv} (h : Inv c S) : S.now.length ≤ c ∧ (used S.now : Int) ≤ S.room := by
  have := h.all S.l.length (Nat.le_refl _)
  rw [List.take_length, ← h.now] at this
  exact ⟨this.1, this.2.1⟩
theorem Inv.new {room : Int} (h0 : 0 ≤ room) (h1 : room ≤ 1073741824) : Inv 0 ⟨room, [], [], []⟩ := by
  refine ⟨h0, h1, rfl, Nat.le_refl _, fun k hk => ?_⟩
  have hk0 : k = 0 := Nat.le_zero.1 hk
  subst hk0
  exact ⟨Nat.le_refl _, by simpa [rep, used] using h0, fun h => absurd h (Nat.lt_irrefl _)⟩
theorem Inv.mono {c d : Nat} {S : Sv} (h : Inv c S) (hd : c ≤ d) : Inv d S := ⟨h.room0, h.room1, h.now, Nat.le_trans h.len hd, fun k hk => ⟨Nat.le_trans (h.all k hk).1 hd, (h.all k hk).2⟩⟩
theorem Inv.plain {c : Nat} {room : Int} {r : List Fl} (h0 : 0 ≤ room) (h1 : room ≤ 1073741824) (hl : r.length ≤ c) (hu : (used r : Int) ≤ room) : Inv c ⟨room, r, r, []⟩ := by
  refine ⟨h0, h1, rfl, Nat.zero_le _, fun k hk => ?_⟩
  have hk0 : k = 0 := Nat.le_zero.1 hk
  subst hk0
  exact ⟨hl, hu, fun h => absurd h (Nat.lt_irrefl _)⟩
theorem Inv.sync {c : Nat} {S : Sv} (h : Inv c S) : Inv c { S with was := S.now, l := [] } := Inv.plain h.room0 h.room1 h.last.1 h.last.2
theorem rep_append (was : List Fl) (l : List Ac) (a : Ac) : rep was (l ++ [a]) = does (rep was l) a := by unfold rep; rw [List.foldl_append]; rfl
theorem Inv.act {c : Nat} {S : Sv} {a : Ac} (h : Inv c S) (hf : fits S.now a) (ho : a.off ≤ 4294967296) (hu : (used (does S.now a) : Int) ≤ S.room) : Inv (c + 1) (S.act a) := by
  have hlen : (S.l ++ [a]).length = S.l.length + 1 := by simp
  refine ⟨h.room0, h.room1, ?_, ?_, fun k hk => ?_⟩
  · show does S.now a = rep S.was (S.l ++ [a])
    rw [rep_append, ← h.now]
  · show (S.l ++ [a]).length ≤ c + 1
    have := h.len
    omega
  · have hk : k ≤ (S.l ++ [a]).length := hk
    show (rep S.was ((S.l ++ [a]).take k)).length ≤ c + 1 ∧ (used (rep S.was ((S.l ++ [a]).take k)) : Int) ≤ S.room ∧ ∀ h : k < (S.l ++ [a]).length, fits (rep S.was ((S.l ++ [a]).take k)) (S.l ++ [a])[k] ∧ (S.l ++ [a])[k].off ≤ 4294967296
    rcases Nat.lt_or_ge k S.l.length with hlt | hge
    · obtain ⟨h1, h2, h3⟩ := h.all k (by omega)
      rw [List.take_append_of_le_length (by omega)]
      refine ⟨by omega, h2, fun hk2 => ?_⟩
      rw [List.getElem_append_left hlt]
      exact h3 hlt
    · rcases Nat.eq_or_lt_of_le hge with e | hgt
      · subst e
        rw [List.take_append_of_le_length (Nat.le_refl _), List.take_length, ← h.now]
        refine ⟨by have := h.last.1; omega, h.last.2, fun hk2 => ?_⟩
        rw [List.getElem_append_right (Nat.le_refl _)]
        simpa using ⟨hf, ho⟩
      · have e : k = (S.l ++ [a]).length := by omega
        subst e
        rw [List.take_length, rep_append, ← h.now]
        refine ⟨?_, hu, fun hk2 => absurd hk2 (Nat.lt_irrefl _)⟩
        have h1 := does_len S.now a
        have h2 := h.last.1
        omega
theorem Inv.sound {c : Nat} {S : Sv} (h : Inv c S) (hc : c ≤ 1048576) : Sound S := fun k hk => by
  obtain ⟨h1, h2, h3⟩ := h.all k hk
  refine ⟨by omega, fun f hf => ?_, h3⟩
  have := used_mem hf
  have := h.room1
  omega
theorem Inv.create {c : Nat} {S : Sv} (h : Inv c S) (n b : List UInt8) : Inv (c + 1) (create S n b).1 := by
  unfold Vf.create
  split
  · exact h.mono (Nat.le_succ _)
  · split
    · exact h.mono (Nat.le_succ _)
    · split
      · exact h.mono (Nat.le_succ _)
      · rename_i hr
        have hf : fits S.now ⟨1, n, 0, b⟩ := fun e => by cases e
        refine h.act hf (Nat.zero_le _) ?_
        have h1 := used_does S.now ⟨1, n, 0, b⟩ hf
        simp at h1
        omega
theorem Inv.remove {c : Nat} {S : Sv} (h : Inv c S) (n : List UInt8) : Inv (c + 1) (remove S n).1 := by
  unfold Vf.remove
  split
  · exact h.mono (Nat.le_succ _)
  · split
    · exact h.mono (Nat.le_succ _)
    · have hf : fits S.now ⟨3, n, 0, []⟩ := fun e => by cases e
      refine h.act hf (Nat.zero_le _) ?_
      have h1 := used_does S.now ⟨3, n, 0, []⟩ hf
      have h2 := h.last.2
      simp at h1
      omega
theorem Inv.write {c : Nat} {S : Sv} (h : Inv c S) (n : List UInt8) (t : Int) (b : List UInt8) : Inv (c + 1) (write S n t b).1 := by
  unfold Vf.write
  split
  · exact h.mono (Nat.le_succ _)
  · split
    · exact h.mono (Nat.le_succ _)
    · split
      · exact h.mono (Nat.le_succ _)
      · rename_i hx hr
        obtain ⟨k, hk, hkl⟩ := ix_at hx
        have hl : lenAt S.now n = (S.now[k].b).length := by unfold lenAt; rw [hk]; simp [hkl]
        have hm := used_mem (List.getElem_mem hkl)
        have h2 := h.last.2
        have h3 := h.room1
        have hf : fits S.now ⟨2, n, t.toNat, b⟩ := fun _ j hj e => by
          have e2 : (j : Int) = (k : Int) := e.trans hk
          obtain rfl : j = k := by omega
          show t.toNat + b.length ≤ _
          omega
        refine h.act hf (show t.toNat ≤ 4294967296 by omega) ?_
        have h1 := used_does S.now ⟨2, n, t.toNat, b⟩ hf
        simp at h1
        omega
theorem Inv.crash {c : Nat} {S : Sv} (h : Inv c S) (n m : Int) : Inv (c + 1) ⟨S.room, crash S n m, crash S n m, []⟩ := by
  rcases Nat.lt_or_ge n.toNat S.l.length with hlt | hge
  · obtain ⟨h1, h2, h3⟩ := h.all n.toNat (by omega)
    by_cases h4 : S.l[n.toNat].kind = 2
    · rw [crash_torn rfl hlt h4]
      refine Inv.plain h.room0 h.room1 ?_ ?_
      · have := does_len (rep S.was (S.l.take n.toNat)) (cut S.l[n.toNat] m)
        omega
      · have := used_does _ _ (fits_cut m (h3 hlt).1)
        have e : (cut S.l[n.toNat] m).kind = 2 := h4
        rw [e] at this
        simp at this
        omega
    · rw [crash_clean rfl hlt h4]
      exact (Inv.plain h.room0 h.room1 h1 h2).mono (Nat.le_succ _)
  · rw [crash_all hge, ← h.now]
    exact (Inv.plain h.room0 h.room1 h.last.1 h.last.2).mono (Nat.le_succ _)

end Vf
end Go.Proofs.YtbhfapbhlkgmfaaDoor

namespace Go.Proofs.YtbhfapbhlkgmfaaDoor
open Go.RowKit
open Me

namespace Vf
def bytesAt (l : List Fl) (n : List UInt8) : List UInt8 := (l.getD (ix l n).toNat ⟨[], []⟩).b
def read (l : List Fl) (n : List UInt8) (t m : Int) : List UInt8 × Int :=
  if is n = false then ([], 1) else if ix l n < 0 then ([], 5) else if t < 0 ∨ m < 0 ∨ ((bytesAt l n).length : Int) < t ∨ ((bytesAt l n).length : Int) - t < m then ([], 1) else (((bytesAt l n).drop t.toNat).take m.toNat, 0)
theorem read_one {l : List Fl} {n : List UInt8} {t m : Int} {k : Nat} (hi : is n = true) (hk : ix l n = (k : Int)) (hkl : k < l.length) (h : t < 0 ∨ m < 0 ∨ (((l[k].b).length : Nat) : Int) < t ∨ (((l[k].b).length : Nat) : Int) - t < m) : read l n t m = ([], 1) := by
  have hl : bytesAt l n = l[k].b := by unfold bytesAt; rw [hk]; simp [hkl]
  unfold read
  rw [if_neg (by simp [hi]), if_neg (by omega), if_pos (by rw [hl]; exact h)]
theorem read_done {l : List Fl} {n : List UInt8} {t m : Nat} {k : Nat} (hi : is n = true) (hk : ix l n = (k : Int)) (hkl : k < l.length) (h : t + m ≤ (l[k].b).length) : read l n (t : Int) (m : Int) = (((l[k].b).drop t).take m, 0) := by
  have hl : bytesAt l n = l[k].b := by unfold bytesAt; rw [hk]; simp [hkl]
  unfold read
  rw [if_neg (by simp [hi]), if_neg (by omega), if_neg (by rw [hl]; omega), hl]
  simp
/-- What Read hands back: bytes in blocks that are new, and a number. -/
def Handed (w : World) (R : List UInt8 × Int) (e : Ending) (w' : World) : Prop := ∃ v, e = .returned (.tuple #[v, .int .i64 R.2]) ∧ Bs w' (fun i => w.heap.size ≤ i) v R.1 ∧ Below w.heap.size w w'
theorem Handed.no {w : World} {R : List UInt8 × Int} {i : Int} (h : R = ([], i)) : Handed w R (.returned (.tuple #[.slice none 0 0, .int .i64 i])) w := by
  subst h
  exact ⟨_, rfl, ⟨none, 0, rfl, Nat.le_refl _, Nat.zero_le _, Rd.none_ _ _ _⟩, Below.refl _ _⟩
end Vf

theorem rd_cut {w : World} {G : Nat → Prop} {ad : Addr} {bb : List UInt8} {t m cc : Nat} (h : Rd w G (some ad) (by8 bb)) (hc : bb.length ≤ cc) (ht : t + m ≤ bb.length) : Rd w G (if cc = t then some ad else some (ad.add t)) (by8 ((bb.drop t).take m)) := by
  by_cases hm : m = 0
  · subst hm
    rw [List.take_zero]
    exact Rd.none_ _ _ _
  · rw [if_neg (by omega), ← by8_take, ← by8_drop]
    exact h.sub t m
theorem read_end {w w1 : World} {v1 : Value} {l : List UInt8} {m : Nat} {e : TypeId} (hl : l.length = m) (hown : w1.ownsRow w.heap.size e 1 v1 (0 + m) ([] ++ by8 l)) (hg : (w.alloc (.cells #[] e)).grownBy w1 (Value.slice (some ⟨w.heap.size, 0, none⟩) 0 0).ownBlock) :
    Vf.Handed w (l, 0) (.returned (.tuple #[v1, .int .i64 0])) w1 := by
  rw [Nat.zero_add, List.nil_append, ← hl] at hown
  exact ⟨v1, rfl, Bs.own hown, ((Below.refl _ _).alloc (Nat.le_refl _) _).grown hg (by simp) (fun g hg => by simp [Value.ownBlock] at hg; omega)⟩

end Go.Proofs.YtbhfapbhlkgmfaaDoor

namespace Go.Proofs.YtbhfapbhlkgmfaaDoor
namespace Fx

/-- A value: whether it is known, and its millionths. -/
structure Vl where
  ok : Bool
  n : Int

def inR (n : Int) : Bool := decide (-4611686018427387904 ≤ n ∧ n ≤ 4611686018427387904)
def none : Vl := ⟨false, 0⟩
/-- Of: the value of n millionths, or none. -/
def of (n : Int) : Vl := if inR n then ⟨true, n⟩ else none
def num (v : Vl) : Bool := v.ok && inR v.n
def isV (v : Vl) : Bool := if v.ok then inR v.n else decide (v.n = 0)
def plus (a b : Vl) : Vl := if num a && num b then of (a.n + b.n) else none
def sub (a b : Vl) : Vl := if num a && num b then of (a.n - b.n) else none
def abs (a : Vl) : Vl := if num a then of (if 0 ≤ a.n then a.n else -a.n) else none
def less (a b : Vl) : Bool := (num a && num b) && decide (a.n < b.n)

theorem inR_yes {n : Int} (h1 : -4611686018427387904 ≤ n) (h2 : n ≤ 4611686018427387904) : inR n = true := by unfold inR; simp; omega
theorem inR_low {n : Int} (h : n < -4611686018427387904) : inR n = false := by unfold inR; simp; omega
theorem inR_high {n : Int} (h : 4611686018427387904 < n) : inR n = false := by unfold inR; simp; omega
theorem inR_iff {n : Int} : inR n = true ↔ -4611686018427387904 ≤ n ∧ n ≤ 4611686018427387904 := by unfold inR; simp
theorem inR_not {n : Int} (h : inR n = false) : n < -4611686018427387904 ∨ 4611686018427387904 < n := by
  by_cases h1 : n < -4611686018427387904
  · exact .inl h1
  · by_cases h2 : 4611686018427387904 < n
    · exact .inr h2
    · rw [inR_yes (by omega) (by omega)] at h; cases h
theorem of_yes {n : Int} (h : inR n = true) : of n = ⟨true, n⟩ := by unfold of; rw [if_pos h]
theorem of_no {n : Int} (h : inR n = false) : of n = none := by unfold of; rw [if_neg (by simp [h])]
theorem num_yes {n : Int} (h : inR n = true) : num ⟨true, n⟩ = true := by simp [num, h]
theorem num_no {n : Int} (h : inR n = false) : num ⟨true, n⟩ = false := by simp [num, h]
theorem num_off {n : Int} : num ⟨false, n⟩ = false := rfl
theorem num_iff {b : Bool} {n : Int} : num ⟨b, n⟩ = true ↔ b = true ∧ -4611686018427387904 ≤ n ∧ n ≤ 4611686018427387904 := by
  unfold num; simp [inR_iff]
theorem isV_on {n : Int} : isV ⟨true, n⟩ = inR n := rfl
theorem isV_off {n : Int} : isV ⟨false, n⟩ = decide (n = 0) := rfl
theorem plus_yes {a b : Vl} (h1 : num a = true) (h2 : num b = true) : plus a b = of (a.n + b.n) := by unfold plus; simp [h1, h2]
theorem plus_no1 {a b : Vl} (h1 : num a = false) : plus a b = none := by unfold plus; simp [h1]
theorem plus_no2 {a b : Vl} (h2 : num b = false) : plus a b = none := by unfold plus; simp [h2]
theorem sub_yes {a b : Vl} (h1 : num a = true) (h2 : num b = true) : sub a b = of (a.n - b.n) := by unfold sub; simp [h1, h2]
theorem sub_no1 {a b : Vl} (h1 : num a = false) : sub a b = none := by unfold sub; simp [h1]
theorem sub_no2 {a b : Vl} (h2 : num b = false) : sub a b = none := by unfold sub; simp [h2]
theorem abs_pos {a : Vl} (h : num a = true) (h0 : 0 ≤ a.n) : abs a = of a.n := by unfold abs; simp [h, h0]
theorem abs_neg {a : Vl} (h : num a = true) (h0 : a.n < 0) : abs a = of (-a.n) := by unfold abs; rw [if_pos h, if_neg (by omega)]
theorem abs_no {a : Vl} (h : num a = false) : abs a = none := by unfold abs; simp [h]
theorem of_wrap {n : Int} (h1 : -9223372036854775808 ≤ n) (h2 : n ≤ 9223372036854775808) : of (Go.RowKit.wrap64 n) = of n := by
  unfold Go.RowKit.wrap64
  by_cases h : n = 9223372036854775808
  · subst h; rw [of_no (n := 9223372036854775808) (inR_high (by omega))]; exact of_no (inR_low (by omega))
  · congr 1; omega
/-- A number without its sign. -/
def mag (n : Int) : Nat := n.natAbs
end Fx
end Go.Proofs.YtbhfapbhlkgmfaaDoor

namespace Go.Proofs.YtbhfapbhlkgmfaaDoor
open Go.RowKit
open Fx (Vl)

theorem bcell {W w1 : World} (hb : Below W.heap.size W w1) : (∀ b o, b < W.heap.size → w1.cell? ⟨b, o, none⟩ = W.cell? ⟨b, o, none⟩) ∧ (∀ b o, b < W.heap.size → w1.frozen? ⟨b, o, none⟩ = W.frozen? ⟨b, o, none⟩) :=
  ⟨fun b o h => hb.cell (p := ⟨b, o, none⟩) h, fun b o h => hb.frozen (p := ⟨b, o, none⟩) h⟩

/-- Old cells, and old marks, in a world of the class. -/
theorem kgrown (W : World) : (∀ d os b o, b < W.heap.size → (Go.Sort.grow (redrawn W d) os).cell? ⟨b, o, none⟩ = W.cell? ⟨b, o, none⟩) ∧ (∀ d os b o, b < W.heap.size → (Go.Sort.grow (redrawn W d) os).frozen? ⟨b, o, none⟩ = W.frozen? ⟨b, o, none⟩) :=
  ⟨fun d os b o h => (below_regrown W d os).cell (p := ⟨b, o, none⟩) h, fun d os b o h => (below_regrown W d os).frozen (p := ⟨b, o, none⟩) h⟩

set_option maxHeartbeats 400000 in
theorem inRange_any (n : Int) (w : World) :
    Calls Tryd.prog 66 #[.int .i64 n] w fun e w' => e = .returned (.bool (Fx.inR n)) ∧ w = w' := by
  by_cases h1 : -4611686018427387904 ≤ n
  · by_cases h2 : n ≤ 4611686018427387904
    · have H := Lib.hid (Fx.inR_yes h1 h2)
      go_enter Tryd.func66, Tryd.ntmps66
      go_wp2
      go_ret
      exact ⟨by rw [H.out]; rfl, rfl⟩
    · have H := Lib.hid (Fx.inR_high (by omega : 4611686018427387904 < n))
      go_enter Tryd.func66, Tryd.ntmps66
      go_wp2
      go_ret
      exact ⟨by rw [H.out]; rfl, rfl⟩
  · have H := Lib.hid (Fx.inR_low (by omega : n < -4611686018427387904))
    go_enter Tryd.func66, Tryd.ntmps66
    go_wp2
    go_ret
    exact ⟨by rw [H.out]; rfl, rfl⟩

set_option maxHeartbeats 400000 in
theorem of_any (n : Int) (w : World) :
    Calls Tryd.prog 49 #[.int .i64 n] w fun e w' => e = .returned (.agg #[.bool (Fx.of n).ok, .int .i64 (Fx.of n).n]) ∧ Below w.heap.size w w' := by
  cases h : Fx.inR n
  · rw [Fx.of_no h]
    go_enter Tryd.func49, Tryd.ntmps49
    go_wp2_with (go_at_call 66; go_must (refine (inRange_any _ _).mono ?_; rintro e w' ⟨rfl, rfl⟩))
    exact bodyPost_ret (v := .agg #[.bool false, .int .i64 0]) (by simp [results, Tryd.results49, go_sem, *]) rfl ⟨rfl, (by repeat (first | exact Below.refl _ _ | assumption | refine Below.setCell ?_ (by first | (simp; done) | omega | (simp; omega) | (simp at *; omega)) _ | refine Below.alloc ?_ (by first | (simp; done) | omega | (simp; omega) | (simp at *; omega)) _ | refine Below.drew ?_ | (refine Below.trans ?_ (Below.mono (by assumption) (by first | (simp; done) | omega | (simp; omega) | (simp at *; omega)))) | (refine Below.trans ?_ (Below.mono (below_regrown _ _ _) (by first | (simp; done) | omega | (simp; omega) | (simp at *; omega))))))⟩
  · rw [Fx.of_yes h]
    go_enter Tryd.func49, Tryd.ntmps49
    go_wp2_with (go_at_call 66; go_must (refine (inRange_any _ _).mono ?_; rintro e w' ⟨rfl, rfl⟩))
    exact bodyPost_ret (v := .agg #[.bool true, .int .i64 n]) (by simp [results, Tryd.results49, go_sem, *]) rfl ⟨rfl, (by repeat (first | exact Below.refl _ _ | assumption | refine Below.setCell ?_ (by first | (simp; done) | omega | (simp; omega) | (simp at *; omega)) _ | refine Below.alloc ?_ (by first | (simp; done) | omega | (simp; omega) | (simp at *; omega)) _ | refine Below.drew ?_ | (refine Below.trans ?_ (Below.mono (by assumption) (by first | (simp; done) | omega | (simp; omega) | (simp at *; omega)))) | (refine Below.trans ?_ (Below.mono (below_regrown _ _ _) (by first | (simp; done) | omega | (simp; omega) | (simp at *; omega))))))⟩

set_option maxHeartbeats 400000 in
theorem int_any (n : Int) (w : World) :
    Calls Tryd.prog 92 #[.int .i64 n] w fun e w' => e = .returned (.agg #[.bool (Fx.of (n * 1000000)).ok, .int .i64 (Fx.of (n * 1000000)).n]) ∧ Below w.heap.size w w' := by
  by_cases h1 : -4611686018427 ≤ n
  · by_cases h2 : n ≤ 4611686018427
    · go_enter Tryd.func92, Tryd.ntmps92
      go_wp2_with (go_at_call 49; go_must (refine (of_any _ _).mono ?_; rintro e w' ⟨rfl, hb⟩; obtain ⟨hc, hf⟩ := bcell hb; (try have hz0 : w.heap.size < w'.heap.size := Nat.lt_of_lt_of_le (by first | assumption | (simp; done) | (simp; omega)) hb.size); (try have hz1 : w.heap.size + 1 < w'.heap.size := Nat.lt_of_lt_of_le (by first | assumption | (simp; done) | (simp; omega)) hb.size); (try have hz2 : w.heap.size + 1 + 1 < w'.heap.size := Nat.lt_of_lt_of_le (by first | assumption | (simp; done) | (simp; omega)) hb.size); have hz := hb.size; (try simp at hz)))
      exact bodyPost_ret (v := (.agg #[.bool (Fx.of (n * 1000000)).ok, .int .i64 (Fx.of (n * 1000000)).n])) (by simp [results, Tryd.results92, go_sem, *]) rfl ⟨rfl, (by repeat (first | exact Below.refl _ _ | assumption | refine Below.setCell ?_ (by first | (simp; done) | omega | (simp; omega) | (simp at *; omega)) _ | refine Below.alloc ?_ (by first | (simp; done) | omega | (simp; omega) | (simp at *; omega)) _ | refine Below.drew ?_ | (refine Below.trans ?_ (Below.mono (by assumption) (by first | (simp; done) | omega | (simp; omega) | (simp at *; omega)))) | (refine Below.trans ?_ (Below.mono (below_regrown _ _ _) (by first | (simp; done) | omega | (simp; omega) | (simp at *; omega))))))⟩
    · rw [Fx.of_no (Fx.inR_high (by omega : 4611686018427387904 < n * 1000000))]
      go_enter Tryd.func92, Tryd.ntmps92
      go_wp2
      exact bodyPost_ret (v := .agg #[.bool false, .int .i64 0]) (by simp [results, Tryd.results92, go_sem, *]) rfl ⟨rfl, (by repeat (first | exact Below.refl _ _ | assumption | refine Below.setCell ?_ (by first | (simp; done) | omega | (simp; omega) | (simp at *; omega)) _ | refine Below.alloc ?_ (by first | (simp; done) | omega | (simp; omega) | (simp at *; omega)) _ | refine Below.drew ?_ | (refine Below.trans ?_ (Below.mono (by assumption) (by first | (simp; done) | omega | (simp; omega) | (simp at *; omega)))) | (refine Below.trans ?_ (Below.mono (below_regrown _ _ _) (by first | (simp; done) | omega | (simp; omega) | (simp at *; omega))))))⟩
  · rw [Fx.of_no (Fx.inR_low (by omega : n * 1000000 < -4611686018427387904))]
    go_enter Tryd.func92, Tryd.ntmps92
    go_wp2
    exact bodyPost_ret (v := .agg #[.bool false, .int .i64 0]) (by simp [results, Tryd.results92, go_sem, *]) rfl ⟨rfl, (by repeat (first | exact Below.refl _ _ | assumption | refine Below.setCell ?_ (by first | (simp; done) | omega | (simp; omega) | (simp at *; omega)) _ | refine Below.alloc ?_ (by first | (simp; done) | omega | (simp; omega) | (simp at *; omega)) _ | refine Below.drew ?_ | (refine Below.trans ?_ (Below.mono (by assumption) (by first | (simp; done) | omega | (simp; omega) | (simp at *; omega)))) | (refine Below.trans ?_ (Below.mono (below_regrown _ _ _) (by first | (simp; done) | omega | (simp; omega) | (simp at *; omega))))))⟩

set_option maxHeartbeats 400000 in
theorem isV_any (b : Bool) (n : Int) (w : World) :
    Calls Tryd.prog 88 #[.agg #[.bool b, .int .i64 n]] w fun e w' => e = .returned (.bool (Fx.isV ⟨b, n⟩)) ∧ Below w.heap.size w w' := by
  cases b
  · rw [Fx.isV_off]
    go_enter Tryd.func88, Tryd.ntmps88
    go_wp2
    go_ret
    exact ⟨by first | rfl | simp, (by repeat (first | exact Below.refl _ _ | assumption | refine Below.setCell ?_ (by first | (simp; done) | omega | (simp; omega) | (simp at *; omega)) _ | refine Below.alloc ?_ (by first | (simp; done) | omega | (simp; omega) | (simp at *; omega)) _ | refine Below.drew ?_ | (refine Below.trans ?_ (Below.mono (by assumption) (by first | (simp; done) | omega | (simp; omega) | (simp at *; omega)))) | (refine Below.trans ?_ (Below.mono (below_regrown _ _ _) (by first | (simp; done) | omega | (simp; omega) | (simp at *; omega))))))⟩
  · rw [Fx.isV_on]
    go_enter Tryd.func88, Tryd.ntmps88
    go_wp2_with (go_at_call 66; go_must (refine (inRange_any _ _).mono ?_; rintro e w' ⟨rfl, rfl⟩))
    go_ret
    exact ⟨rfl, (by repeat (first | exact Below.refl _ _ | assumption | refine Below.setCell ?_ (by first | (simp; done) | omega | (simp; omega) | (simp at *; omega)) _ | refine Below.alloc ?_ (by first | (simp; done) | omega | (simp; omega) | (simp at *; omega)) _ | refine Below.drew ?_ | (refine Below.trans ?_ (Below.mono (by assumption) (by first | (simp; done) | omega | (simp; omega) | (simp at *; omega)))) | (refine Below.trans ?_ (Below.mono (below_regrown _ _ _) (by first | (simp; done) | omega | (simp; omega) | (simp at *; omega))))))⟩

set_option maxHeartbeats 400000 in
theorem isNumber_any (b : Bool) (n : Int) (w : World) :
    Calls Tryd.prog 96 #[.agg #[.bool b, .int .i64 n]] w fun e w' => e = .returned (.bool (Fx.num ⟨b, n⟩)) ∧ Below w.heap.size w w' := by
  cases b
  · go_enter Tryd.func96, Tryd.ntmps96
    go_wp2
    go_ret
    exact ⟨rfl, (by repeat (first | exact Below.refl _ _ | assumption | refine Below.setCell ?_ (by first | (simp; done) | omega | (simp; omega) | (simp at *; omega)) _ | refine Below.alloc ?_ (by first | (simp; done) | omega | (simp; omega) | (simp at *; omega)) _ | refine Below.drew ?_ | (refine Below.trans ?_ (Below.mono (by assumption) (by first | (simp; done) | omega | (simp; omega) | (simp at *; omega)))) | (refine Below.trans ?_ (Below.mono (below_regrown _ _ _) (by first | (simp; done) | omega | (simp; omega) | (simp at *; omega))))))⟩
  · go_enter Tryd.func96, Tryd.ntmps96
    go_wp2_with (go_at_call 66; go_must (refine (inRange_any _ _).mono ?_; rintro e w' ⟨rfl, rfl⟩))
    go_ret
    exact ⟨rfl, (by repeat (first | exact Below.refl _ _ | assumption | refine Below.setCell ?_ (by first | (simp; done) | omega | (simp; omega) | (simp at *; omega)) _ | refine Below.alloc ?_ (by first | (simp; done) | omega | (simp; omega) | (simp at *; omega)) _ | refine Below.drew ?_ | (refine Below.trans ?_ (Below.mono (by assumption) (by first | (simp; done) | omega | (simp; omega) | (simp at *; omega)))) | (refine Below.trans ?_ (Below.mono (below_regrown _ _ _) (by first | (simp; done) | omega | (simp; omega) | (simp at *; omega))))))⟩

end Go.Proofs.YtbhfapbhlkgmfaaDoor

namespace Go.Proofs.YtbhfapbhlkgmfaaDoor
namespace Wh

def At (l : List (Int × Int)) (i : Nat) : Int × Int := l.getD i (0, 0)
def num (n : Int) : Bool := decide (1 ≤ n) && decide (n ≤ 16777216)
def fol (a b : Int × Int) : Bool := decide (a.1 < b.1) && decide (b.1 % a.1 = 0) && decide (a.1 * a.2 < b.1 * b.2) && decide (b.1 / a.1 ≤ a.2)
def stp (l : List (Int × Int)) (i : Nat) : Bool := num (At l i).1 && num (At l i).2 && (decide (i = 0) || fol (At l (i - 1)) (At l i))
def alls (l : List (Int × Int)) : Nat → Bool
  | 0 => true
  | k + 1 => alls l k && stp l k
def sm (l : List (Int × Int)) : Nat → Int
  | 0 => 0
  | k + 1 => sm l k + 12 * (At l k).2
def ends (l : List (Int × Int)) (k : Nat) : Int := 16 + 12 * (l.length : Int) + sm l k
def lsp (l : List (Int × Int)) : Int := (At l (l.length - 1)).1 * (At l (l.length - 1)).2
def kind (ag : Int) : Bool := decide (1 ≤ ag) && decide (ag ≤ 5)
def av (l : List (Int × Int)) : Bool := decide (1 ≤ l.length) && decide (l.length ≤ 8) && alls l l.length && decide (ends l l.length ≤ 1048576) && decide (lsp l ≤ 4294967295)
def val (ag xf : Int) (l : List (Int × Int)) : Bool := kind ag && decide (0 ≤ xf) && decide (xf ≤ 1000000) && av l

theorem num_t {n : Int} (h1 : 1 ≤ n) (h2 : n ≤ 16777216) : num n = true := by unfold num; simp [h1, h2]
theorem num_bd {n : Int} (h : num n = true) : 1 ≤ n ∧ n ≤ 16777216 := by unfold num at h; simpa using h
theorem num_f {n : Int} (h : num n = false) : n < 1 ∨ 16777216 < n := by
  unfold num at h
  simp at h
  omega
theorem kind_f {n : Int} (h : n < 1 ∨ 5 < n) : kind n = false := by
  unfold kind
  simp
  omega
theorem kind_bd {n : Int} (h : kind n = true) : 1 ≤ n ∧ n ≤ 5 := by unfold kind at h; simpa using h

theorem alls_less {l : List (Int × Int)} {k n : Nat} (hkn : k ≤ n) (h : alls l n = true) : alls l k = true := by
  induction n with
  | zero => obtain rfl : k = 0 := by omega
            exact h
  | succ n ih =>
    by_cases e : k = n + 1
    · subst e; exact h
    · exact ih (by omega) (by unfold alls at h; simp at h; exact h.1)
theorem alls_stp {l : List (Int × Int)} {k n : Nat} (hkn : k < n) (h : alls l n = true) : stp l k = true := by
  have := alls_less (Nat.succ_le_of_lt hkn) h
  unfold alls at this
  simp at this
  exact this.2
theorem alls_f {l : List (Int × Int)} {k n : Nat} (hkn : k < n) (h : stp l k = false) : alls l n = false := by
  cases e : alls l n with
  | false => rfl
  | true => rw [alls_stp hkn e] at h; cases h
theorem alls_num {l : List (Int × Int)} {k n : Nat} (hkn : k < n) (h : alls l n = true) : (1 ≤ (At l k).1 ∧ (At l k).1 ≤ 16777216) ∧ (1 ≤ (At l k).2 ∧ (At l k).2 ≤ 16777216) := by
  have := alls_stp hkn h
  unfold stp at this
  simp only [Bool.and_eq_true] at this
  exact ⟨num_bd this.1.1, num_bd this.1.2⟩
theorem sm_bd {l : List (Int × Int)} {n : Nat} (h : ∀ i, i < n → 1 ≤ (At l i).2 ∧ (At l i).2 ≤ 16777216) : ∀ k, k ≤ n → 12 * (k : Int) ≤ sm l k ∧ sm l k ≤ 201326592 * (k : Int)
  | 0, _ => by simp [sm]
  | k + 1, hk => by
    have := sm_bd h k (by omega)
    have := h k (by omega)
    unfold sm
    omega
theorem sm_le {l : List (Int × Int)} {n : Nat} (h : ∀ i, i < n → 1 ≤ (At l i).2 ∧ (At l i).2 ≤ 16777216) {k : Nat} : ∀ m, k ≤ m → m ≤ n → sm l k + 12 * ((m : Int) - (k : Int)) ≤ sm l m
  | 0, hk, _ => by obtain rfl : k = 0 := by omega
                   simp
  | m + 1, hk, hm => by
    by_cases e : k = m + 1
    · subst e; simp
    · have := sm_le (k := k) h m (by omega) (by omega)
      have := h m (by omega)
      rw [sm]
      omega
theorem ends_bd {l : List (Int × Int)} (h8 : l.length ≤ 8) (h : ∀ i, i < l.length → 1 ≤ (At l i).2 ∧ (At l i).2 ≤ 16777216) (k : Nat) (hk : k ≤ l.length) : 16 ≤ ends l k ∧ ends l k ≤ 2000000000 := by
  have := sm_bd h k hk
  unfold ends
  omega
theorem ends_succ (l : List (Int × Int)) (k : Nat) : ends l (k + 1) = ends l k + 12 * (At l k).2 := by unfold ends; rw [sm]; omega
theorem ends_zero (l : List (Int × Int)) : ends l 0 = 16 + 12 * (l.length : Int) := by unfold ends; rw [sm]; omega
/-- The sum as the document makes it. -/
def run (l : List (Int × Int)) (k : Nat) : Int := 16 + 12 * (k : Int) + sm l k
theorem run_succ (l : List (Int × Int)) (k : Nat) : run l (k + 1) = run l k + 12 + 12 * (At l k).2 := by unfold run; rw [sm]; omega
theorem run_zero (l : List (Int × Int)) : run l 0 = 16 := by unfold run; rw [sm]; omega
theorem run_all (l : List (Int × Int)) : run l l.length = ends l l.length := rfl
theorem run_bd {l : List (Int × Int)} (h8 : l.length ≤ 8) (h : ∀ i, i < l.length → 1 ≤ (At l i).2 ∧ (At l i).2 ≤ 16777216) (k : Nat) (hk : k ≤ l.length) : 16 ≤ run l k ∧ run l k ≤ 2000000000 := by
  have := sm_bd h k hk
  unfold run
  omega
theorem run_le {l : List (Int × Int)} (h : ∀ i, i < l.length → 1 ≤ (At l i).2 ∧ (At l i).2 ≤ 16777216) (k : Nat) (hk : k ≤ l.length) : run l k ≤ ends l l.length := by
  have := sm_le h l.length hk (Nat.le_refl _)
  unfold run ends
  omega
theorem alls_cnt {l : List (Int × Int)} {n : Nat} (h : alls l n = true) : ∀ i, i < n → 1 ≤ (At l i).2 ∧ (At l i).2 ≤ 16777216 := fun _ hi => (alls_num hi h).2

theorem av_long {l : List (Int × Int)} (h : 8 < l.length) : av l = false := by
  have : decide (l.length ≤ 8) = false := decide_eq_false (by omega)
  unfold av
  simp [this]
theorem av_nil {l : List (Int × Int)} (h : l.length = 0) : av l = false := by
  have : decide (1 ≤ l.length) = false := decide_eq_false (by omega)
  unfold av
  simp [this]
theorem av_stp {l : List (Int × Int)} {k : Nat} (hk : k < l.length) (h : stp l k = false) : av l = false := by
  unfold av
  simp [alls_f hk h]
theorem av_big {l : List (Int × Int)} (h : 1048576 < ends l l.length) : av l = false := by
  have : decide (ends l l.length ≤ 1048576) = false := decide_eq_false (by omega)
  unfold av
  simp [this]
theorem av_end {l : List (Int × Int)} (h1 : 1 ≤ l.length) (h8 : l.length ≤ 8) (ha : alls l l.length = true) (he : ends l l.length ≤ 1048576) : av l = decide (lsp l ≤ 4294967295) := by
  unfold av
  simp [h1, h8, ha, he]
theorem av_t {l : List (Int × Int)} (h : av l = true) : 1 ≤ l.length ∧ l.length ≤ 8 ∧ alls l l.length = true ∧ ends l l.length ≤ 1048576 ∧ lsp l ≤ 4294967295 := by
  unfold av at h
  simp only [Bool.and_eq_true, decide_eq_true_eq] at h
  exact ⟨h.1.1.1.1, h.1.1.1.2, h.1.1.2, h.1.2, h.2⟩
theorem val_t {ag xf : Int} {l : List (Int × Int)} (h : val ag xf l = true) : (1 ≤ ag ∧ ag ≤ 5) ∧ 0 ≤ xf ∧ xf ≤ 1000000 ∧ av l = true := by
  unfold val at h
  simp only [Bool.and_eq_true, decide_eq_true_eq] at h
  exact ⟨kind_bd h.1.1.1, h.1.1.2, h.1.2, h.2⟩
theorem val_head {ag xf : Int} {l : List (Int × Int)} (h : ag < 1 ∨ 5 < ag ∨ xf < 0 ∨ 1000000 < xf ∨ av l = false) : val ag xf l = false := by
  unfold val
  rcases h with h | h | h | h | h
  · simp [kind_f (.inl h)]
  · simp [kind_f (.inr h)]
  · have : decide (0 ≤ xf) = false := decide_eq_false (by omega)
    simp [this]
  · have : decide (xf ≤ 1000000) = false := decide_eq_false (by omega)
    simp [this]
  · simp [h]
theorem kind_t {ag : Int} (h1 : 1 ≤ ag) (h2 : ag ≤ 5) : kind ag = true := by unfold kind; simp [h1, h2]
theorem val_av {ag xf : Int} {l : List (Int × Int)} (h1 : 1 ≤ ag) (h2 : ag ≤ 5) (h3 : 0 ≤ xf) (h4 : xf ≤ 1000000) : val ag xf l = av l := by
  unfold val
  simp [kind_t h1 h2, h3, h4]
theorem lsp_bd {l : List (Int × Int)} (h1 : 1 ≤ l.length) (ha : alls l l.length = true) : 1 ≤ lsp l ∧ lsp l ≤ 281474976710656 := by
  have := alls_num (k := l.length - 1) (by omega) ha
  unfold lsp
  constructor
  · calc (1 : Int) = 1 * 1 := rfl
      _ ≤ _ := Int.mul_le_mul this.1.1 this.2.1 (by omega) (by omega)
  · calc _ ≤ (16777216 : Int) * 16777216 := Int.mul_le_mul this.1.2 this.2.2 (by omega) (by omega)
      _ = _ := rfl
theorem mul_bd {a b : Int} (h1 : 1 ≤ a) (h2 : a ≤ 16777216) (h3 : 1 ≤ b) (h4 : b ≤ 16777216) : 1 ≤ a * b ∧ a * b ≤ 281474976710656 := by
  constructor
  · calc (1 : Int) = 1 * 1 := rfl
      _ ≤ _ := Int.mul_le_mul h1 h3 (by omega) (by omega)
  · calc a * b ≤ (16777216 : Int) * 16777216 := Int.mul_le_mul h2 h4 (by omega) (by omega)
      _ = _ := rfl
/-- What a step is, told by its parts. -/
theorem stp_f1 {l : List (Int × Int)} {k : Nat} (h : num (At l k).1 = false) : stp l k = false := by unfold stp; simp [h]
theorem stp_f2 {l : List (Int × Int)} {k : Nat} (h : num (At l k).2 = false) : stp l k = false := by unfold stp; simp [h]
theorem stp_f3 {l : List (Int × Int)} {k : Nat} (h0 : 0 < k) (h : fol (At l (k - 1)) (At l k) = false) : stp l k = false := by
  have : decide (k = 0) = false := decide_eq_false (by omega)
  unfold stp
  simp [h, this]
theorem stp_t {l : List (Int × Int)} {k : Nat} (h1 : num (At l k).1 = true) (h2 : num (At l k).2 = true) (h : k = 0 ∨ fol (At l (k - 1)) (At l k) = true) : stp l k = true := by
  unfold stp
  rw [h1, h2]
  rcases h with h | h
  · simp [h]
  · simp [h]
theorem alls_succ {l : List (Int × Int)} {k : Nat} (h : alls l k = true) (h2 : stp l k = true) : alls l (k + 1) = true := by unfold alls; simp [h, h2]
/-- The four tests of two archives side by side. -/
theorem fol_1 {a b : Int × Int} (h : b.1 ≤ a.1) : fol a b = false := by
  have : decide (a.1 < b.1) = false := decide_eq_false (by omega)
  unfold fol; simp [this]
theorem fol_2 {a b : Int × Int} (h : b.1 % a.1 ≠ 0) : fol a b = false := by
  have : decide (b.1 % a.1 = 0) = false := by simp [h]
  unfold fol; simp [this]
theorem fol_3 {a b : Int × Int} (h : b.1 * b.2 ≤ a.1 * a.2) : fol a b = false := by
  have : decide (a.1 * a.2 < b.1 * b.2) = false := decide_eq_false (by omega)
  unfold fol; simp [this]
theorem fol_4 {a b : Int × Int} (h1 : a.1 < b.1) (h2 : b.1 % a.1 = 0) (h3 : a.1 * a.2 < b.1 * b.2) : fol a b = decide (b.1 / a.1 ≤ a.2) := by unfold fol; simp [h1, h2, h3]
end Wh
end Go.Proofs.YtbhfapbhlkgmfaaDoor

namespace Go.Proofs.YtbhfapbhlkgmfaaDoor
open Go.RowKit
open Wh (At)



/-- The cells of a row of archives. -/
structure Ars (w : World) (b off : Nat) (l : List (Int × Int)) : Prop where
  lt : b < w.heap.size
  st : ∀ i, i < l.length → w.cell? ⟨b, off + i * 2, none⟩ = some (.int .i64 (At l i).1)
  ct : ∀ i, i < l.length → w.cell? ⟨b, off + i * 2 + 1, none⟩ = some (.int .i64 (At l i).2)
theorem Ars.below {w w' : World} {b off : Nat} {l : List (Int × Int)} (h : Ars w b off l) (hb : Below w.heap.size w w') : Ars w' b off l :=
  ⟨Nat.lt_of_lt_of_le h.lt hb.size, fun i hi => (hb.cell (p := ⟨b, off + i * 2, none⟩) h.lt).trans (h.st i hi), fun i hi => (hb.cell (p := ⟨b, off + i * 2 + 1, none⟩) h.lt).trans (h.ct i hi)⟩
theorem Ars.alloc {w : World} {b off : Nat} {l : List (Int × Int)} (h : Ars w b off l) (o : Obj) : Ars (w.alloc o) b off l := h.below ((Below.refl _ _).alloc (Nat.le_refl _) _)

set_option maxHeartbeats 400000 in
theorem isNum_any (n : Int) (w : World) :
    Calls Tryd.prog 73 #[.int .i64 n] w fun e w' => e = .returned (.bool (Wh.num n)) ∧ w = w' := by
  by_cases h1 : 1 ≤ n
  · by_cases h2 : n ≤ 16777216
    · have H := Lib.hid (Wh.num_t h1 h2)
      go_enter Tryd.func73, Tryd.ntmps73
      go_wp2
      go_ret
      exact ⟨by rw [H.out]; rfl, rfl⟩
    · have H := Lib.hid (show Wh.num n = false by unfold Wh.num; simp [h2])
      go_enter Tryd.func73, Tryd.ntmps73
      go_wp2
      go_ret
      exact ⟨by rw [H.out]; rfl, rfl⟩
  · have H := Lib.hid (show Wh.num n = false by unfold Wh.num; simp [h1])
    go_enter Tryd.func73, Tryd.ntmps73
    go_wp2
    go_ret
    exact ⟨by rw [H.out]; rfl, rfl⟩

set_option maxHeartbeats 400000 in
theorem isKind_any (n : Int) (w : World) :
    Calls Tryd.prog 60 #[.int .i64 n] w fun e w' => e = .returned (.bool (Wh.kind n)) ∧ w = w' := by
  by_cases h1 : n < 1 ∨ 5 < n
  · have H := Lib.hid (Wh.kind_f h1)
    have d1 : (n == 1) = false := by simp; omega
    have d2 : (n == 2) = false := by simp; omega
    have d3 : (n == 3) = false := by simp; omega
    have d4 : (n == 4) = false := by simp; omega
    have d5 : (n == 5) = false := by simp; omega
    clear h1
    go_enter Tryd.func60, Tryd.ntmps60
    go_wp2
    go_ret
    exact ⟨by rw [H.out]; rfl, rfl⟩
  · have H := Lib.hid (Wh.kind_t (ag := n) (by omega) (by omega))
    have hc : n = 1 ∨ n = 2 ∨ n = 3 ∨ n = 4 ∨ n = 5 := by omega
    clear h1
    rcases hc with rfl | rfl | rfl | rfl | rfl
    all_goals
      go_enter Tryd.func60, Tryd.ntmps60
      go_wp2
      go_ret
      exact ⟨by rw [H.out]; rfl, rfl⟩

set_option maxHeartbeats 400000 in
theorem headBytes_any (n : Int) (h1 : 0 ≤ n) (h2 : n ≤ 1000000000000) (w : World) :
    Calls Tryd.prog 36 #[.int .i64 n] w fun e w' => e = .returned (.int .i64 (16 + n * 12)) ∧ w = w' := by
  go_enter Tryd.func36, Tryd.ntmps36
  go_wp2
  go_ret
  exact ⟨rfl, rfl⟩

set_option maxHeartbeats 400000 in
theorem span_any (s c : Int) (h : IntKind.i64.wrap (s * c) = s * c) (w : World) :
    Calls Tryd.prog 62 #[.agg #[.int .i64 s, .int .i64 c]] w fun e w' => e = .returned (.int .i64 (s * c)) ∧ Below w.heap.size w w' := by
  generalize hq : s * c = q at h
  have HQ := Lib.hid hq
  clear hq
  have hw : IntKind.i64.wrap (s * c) = q := by rw [HQ.out]; exact h
  clear h
  go_enter Tryd.func62, Tryd.ntmps62
  go_wp2
  go_ret
  exact ⟨rfl, (by repeat (first | exact Below.refl _ _ | assumption | refine Below.setCell ?_ (by first | (simp; done) | omega | (simp; omega) | (simp at *; omega)) _ | refine Below.alloc ?_ (by first | (simp; done) | omega | (simp; omega) | (simp at *; omega)) _ | refine Below.drew ?_ | (refine Below.trans ?_ (Below.mono (by assumption) (by first | (simp; done) | omega | (simp; omega) | (simp at *; omega)))) | (refine Below.trans ?_ (Below.mono (below_regrown _ _ _) (by first | (simp; done) | omega | (simp; omega) | (simp at *; omega))))))⟩

set_option maxHeartbeats 400000 in
theorem lastSpan_any (l : List (Int × Int)) (b off cap : Nat) (w : World) (hA : Ars w b off l) (h1 : 1 ≤ l.length) (h8 : l.length ≤ 8) (hw : IntKind.i64.wrap (Wh.lsp l) = Wh.lsp l) :
    Calls Tryd.prog 38 #[.slice (some ⟨b, off, none⟩) l.length cap] w fun e w' => e = .returned (.int .i64 (Wh.lsp l)) ∧ Below w.heap.size w w' := by
  have HS := Lib.hid (span_any (At l (l.length - 1)).1 (At l (l.length - 1)).2 hw)
  have HE : Hid (Wh.lsp l = (At l (l.length - 1)).1 * (At l (l.length - 1)).2) := Lib.hid rfl
  obtain ⟨k, hk⟩ : ∃ k, l.length = k + 1 := ⟨l.length - 1, by omega⟩
  have c0 := hA.st k (by omega)
  have c1 := hA.ct k (by omega)
  have hlt := hA.lt
  rw [hk] at HS HE h8 ⊢
  simp only [Nat.add_sub_cancel] at HS HE
  clear hw hA h1 hk
  generalize (At l k) = a at *
  obtain ⟨s, c⟩ := a
  have hkn : (((k + 1 : Nat) : Int) - 1) = (k : Int) := by omega
  go_enter Tryd.func38, Tryd.ntmps38
  go_wp2_with (go_at_call 62; go_must (refine (HS.out _).mono ?_; rintro e w' ⟨rfl, hb⟩; obtain ⟨hc, hf⟩ := bcell hb; (try have hz0 : w.heap.size < w'.heap.size := Nat.lt_of_lt_of_le (by first | assumption | (simp; done) | (simp; omega)) hb.size); (try have hz1 : w.heap.size + 1 < w'.heap.size := Nat.lt_of_lt_of_le (by first | assumption | (simp; done) | (simp; omega)) hb.size); (try have hz2 : w.heap.size + 1 + 1 < w'.heap.size := Nat.lt_of_lt_of_le (by first | assumption | (simp; done) | (simp; omega)) hb.size); have hz := hb.size; (try simp at hz)))
  go_ret
  exact ⟨by rw [HE.out]; rfl, (by repeat (first | exact Below.refl _ _ | assumption | refine Below.setCell ?_ (by first | (simp; done) | omega | (simp; omega) | (simp at *; omega)) _ | refine Below.alloc ?_ (by first | (simp; done) | omega | (simp; omega) | (simp at *; omega)) _ | refine Below.drew ?_ | (refine Below.trans ?_ (Below.mono (by assumption) (by first | (simp; done) | omega | (simp; omega) | (simp at *; omega)))) | (refine Below.trans ?_ (Below.mono (below_regrown _ _ _) (by first | (simp; done) | omega | (simp; omega) | (simp at *; omega))))))⟩
end Go.Proofs.YtbhfapbhlkgmfaaDoor

namespace Go.Proofs.YtbhfapbhlkgmfaaDoor
open Go.RowKit Go.Sort
open Wh (At)

set_option maxRecDepth 100000 in
set_option maxHeartbeats 1000000 in
theorem follows_any (s c t d : Int) (h1 : 1 ≤ s) (h2 : s ≤ 16777216) (h3 : 1 ≤ c) (h4 : c ≤ 16777216) (h5 : 1 ≤ t) (h6 : t ≤ 16777216) (h7 : 1 ≤ d) (h8 : d ≤ 16777216) (w : World) :
    Calls Tryd.prog 74 #[.agg #[.int .i64 s, .int .i64 c], .agg #[.int .i64 t, .int .i64 d]] w fun e w' => e = .returned (.bool (Wh.fol (s, c) (t, d))) ∧ Below w.heap.size w w' := by
  obtain ⟨kc, kf⟩ := kgrown ((w.alloc (.cells #[.int .i64 s, .int .i64 c] 30)).alloc (.cells #[.int .i64 t, .int .i64 d] 30))
  have bs := Wh.mul_bd h1 h2 h3 h4
  have bt := Wh.mul_bd h5 h6 h7 h8
  have HS1 := Lib.hid (span_any s c (IntWalk.i64_in _ (by omega)))
  have HS2 := Lib.hid (span_any t d (IntWalk.i64_in _ (by omega)))
  have hm : t.tmod s = t % s := Int.tmod_eq_emod_of_nonneg (by omega)
  have hd : t.tdiv s = t / s := Int.tdiv_eq_ediv_of_nonneg (by omega)
  have hz : (s == 0) = false := by simp; omega
  have hdb : 0 ≤ t / s ∧ t / s ≤ t := ⟨Int.ediv_nonneg (by omega) (by omega), Int.ediv_le_self _ (by omega)⟩
  have hdw : IntKind.i64.wrap (t / s) = t / s := IntWalk.i64_in _ (by omega)
  by_cases g1 : t ≤ s
  · have H := Lib.hid (Wh.fol_1 (a := (s, c)) (b := (t, d)) g1)
    have e1 : decide (s < t) = false := decide_eq_false (by omega)
    go_enter Tryd.func74, Tryd.ntmps74
    go_wp2_with fail
    refine wp_region_quiet_below (by kernel_rfl) (by kernel_rfl) ?_
    repeat (go_big_quiet_step (first
      | (go_at_call 62; exact Calls.regrown_of (HS2.out _))
      | (go_at_call 62; exact Calls.regrown_of (HS1.out _))))
    refine wpQuiet_nil ?_
    intro _ hw'
    obtain ⟨⟨dq, osq⟩, hw''⟩ := hw'
    subst hw''
    go_wp2
    go_ret
    exact ⟨by rw [H.out]; rfl, (by repeat (first | exact Below.refl _ _ | assumption | refine Below.setCell ?_ (by first | (simp; done) | omega | (simp; omega) | (simp at *; omega)) _ | refine Below.alloc ?_ (by first | (simp; done) | omega | (simp; omega) | (simp at *; omega)) _ | refine Below.drew ?_ | (refine Below.trans ?_ (Below.mono (by assumption) (by first | (simp; done) | omega | (simp; omega) | (simp at *; omega)))) | (refine Below.trans ?_ (Below.mono (below_regrown _ _ _) (by first | (simp; done) | omega | (simp; omega) | (simp at *; omega))))))⟩
  · have e1 : decide (s < t) = true := decide_eq_true (by omega)
    by_cases g2 : t % s = 0
    · have e2 : (t % s == 0) = true := by simp [g2]
      by_cases g3 : t * d ≤ s * c
      · have H := Lib.hid (Wh.fol_3 (a := (s, c)) (b := (t, d)) g3)
        have e3 : decide (s * c < t * d) = false := decide_eq_false (by omega)
        clear g2
        go_enter Tryd.func74, Tryd.ntmps74
        go_wp2_with fail
        refine wp_region_quiet_below (by kernel_rfl) (by kernel_rfl) ?_
        repeat (go_big_quiet_step (first
          | (go_at_call 62; exact Calls.regrown_of (HS2.out _))
          | (go_at_call 62; exact Calls.regrown_of (HS1.out _))))
        refine wpQuiet_nil ?_
        intro _ hw'
        obtain ⟨⟨dq, osq⟩, hw''⟩ := hw'
        subst hw''
        go_wp2
        go_ret
        exact ⟨by rw [H.out]; rfl, (by repeat (first | exact Below.refl _ _ | assumption | refine Below.setCell ?_ (by first | (simp; done) | omega | (simp; omega) | (simp at *; omega)) _ | refine Below.alloc ?_ (by first | (simp; done) | omega | (simp; omega) | (simp at *; omega)) _ | refine Below.drew ?_ | (refine Below.trans ?_ (Below.mono (by assumption) (by first | (simp; done) | omega | (simp; omega) | (simp at *; omega)))) | (refine Below.trans ?_ (Below.mono (below_regrown _ _ _) (by first | (simp; done) | omega | (simp; omega) | (simp at *; omega))))))⟩
      · have H := Lib.hid (Wh.fol_4 (a := (s, c)) (b := (t, d)) (by show s < t; omega) g2 (by show s * c < t * d; omega))
        have e3 : decide (s * c < t * d) = true := decide_eq_true (by omega)
        clear g2
        go_enter Tryd.func74, Tryd.ntmps74
        go_wp2_with fail
        refine wp_region_quiet_below (by kernel_rfl) (by kernel_rfl) ?_
        repeat (go_big_quiet_step (first
          | (go_at_call 62; exact Calls.regrown_of (HS2.out _))
          | (go_at_call 62; exact Calls.regrown_of (HS1.out _))))
        refine wpQuiet_nil ?_
        intro _ hw'
        obtain ⟨⟨dq, osq⟩, hw''⟩ := hw'
        subst hw''
        go_wp2
        go_ret
        exact ⟨by rw [H.out]; rfl, (by repeat (first | exact Below.refl _ _ | assumption | refine Below.setCell ?_ (by first | (simp; done) | omega | (simp; omega) | (simp at *; omega)) _ | refine Below.alloc ?_ (by first | (simp; done) | omega | (simp; omega) | (simp at *; omega)) _ | refine Below.drew ?_ | (refine Below.trans ?_ (Below.mono (by assumption) (by first | (simp; done) | omega | (simp; omega) | (simp at *; omega)))) | (refine Below.trans ?_ (Below.mono (below_regrown _ _ _) (by first | (simp; done) | omega | (simp; omega) | (simp at *; omega))))))⟩
    · have H := Lib.hid (Wh.fol_2 (a := (s, c)) (b := (t, d)) g2)
      have e2 : (t % s == 0) = false := by simp [g2]
      clear g2
      go_enter Tryd.func74, Tryd.ntmps74
      go_wp2_with fail
      refine wp_region_quiet_below (by kernel_rfl) (by kernel_rfl) ?_
      repeat (go_big_quiet_step (first
        | (go_at_call 62; exact Calls.regrown_of (HS2.out _))
        | (go_at_call 62; exact Calls.regrown_of (HS1.out _))))
      refine wpQuiet_nil ?_
      intro _ hw'
      obtain ⟨⟨dq, osq⟩, hw''⟩ := hw'
      subst hw''
      go_wp2
      go_ret
      exact ⟨by rw [H.out]; rfl, (by repeat (first | exact Below.refl _ _ | assumption | refine Below.setCell ?_ (by first | (simp; done) | omega | (simp; omega) | (simp at *; omega)) _ | refine Below.alloc ?_ (by first | (simp; done) | omega | (simp; omega) | (simp at *; omega)) _ | refine Below.drew ?_ | (refine Below.trans ?_ (Below.mono (by assumption) (by first | (simp; done) | omega | (simp; omega) | (simp at *; omega)))) | (refine Below.trans ?_ (Below.mono (below_regrown _ _ _) (by first | (simp; done) | omega | (simp; omega) | (simp at *; omega))))))⟩

end Go.Proofs.YtbhfapbhlkgmfaaDoor
