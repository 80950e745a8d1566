/-
  MEMORY, for every seat: what stands of a world outside of a set of blocks; rows of cells that are read; lists of things, each of so many cells. No program is named here.
-/
import Derived.Below
import Derived.Laws.OwnMore
import Derived.Laws.Rows
import Derived.Maps.AppendAt
import Derived.Deep.AppendLies
import Derived.Deep.Draws
import Derived.OwnWalk
import Derived.WalkKit
import Derived.Lib.Hide
namespace Go.Proofs.YtojmcndiooiehaaDoor
open Go.RowKit
namespace Me

/-- Outside of the set O all is as it was; blocks may have been laid. -/
structure Kp (O : Nat → Prop) (w w' : World) : Prop where
  os : w'.os = w.os
  tape : w'.tape = w.tape
  output : w'.output = w.output
  size : w.heap.size ≤ w'.heap.size
  block : ∀ k, k < w.heap.size → ¬ O k → w'.heap[k]? = w.heap[k]?

theorem Kp.refl (O : Nat → Prop) (w : World) : Kp O w w := ⟨rfl, rfl, rfl, Nat.le_refl _, fun _ _ _ => rfl⟩
theorem Kp.trans {O O' : Nat → Prop} {a b c : World} (h : Kp O a b) (k : Kp O' b c) (hO : ∀ i, i < a.heap.size → O' i → O i) : Kp O a c :=
  ⟨k.os.trans h.os, k.tape.trans h.tape, k.output.trans h.output, Nat.le_trans h.size k.size,
    fun i hi hn => (k.block i (Nat.lt_of_lt_of_le hi h.size) (fun x => hn (hO i hi x))).trans (h.block i hi hn)⟩
theorem Kp.mono {O O' : Nat → Prop} {a b : World} (h : Kp O a b) (hO : ∀ i, i < a.heap.size → O i → O' i) : Kp O' a b :=
  ⟨h.os, h.tape, h.output, h.size, fun i hi hn => h.block i hi (fun x => hn (hO i hi x))⟩
theorem Kp.of_below {O : Nat → Prop} {a b : World} (h : Below a.heap.size a b) : Kp O a b := ⟨h.os, h.tape, h.output, h.size, fun i hi _ => h.block i hi⟩
theorem Kp.below {O : Nat → Prop} {a b : World} {B : Nat} (h : Kp O a b) (hB : B ≤ a.heap.size) (hO : ∀ i, i < B → ¬ O i) : Below B a b :=
  ⟨h.os, h.tape, h.output, h.size, fun i hi => h.block i (Nat.lt_of_lt_of_le hi hB) (hO i hi)⟩
theorem Kp.alloc {O : Nat → Prop} {a w : World} (h : Kp O a w) (o : Obj) : Kp O a (w.alloc o) :=
  ⟨h.os, h.tape, h.output, Nat.le_trans h.size (by simp), fun i hi hn => (Below.heap_alloc w o i (Nat.lt_of_lt_of_le hi h.size)).trans (h.block i hi hn)⟩
theorem Kp.drew {O : Nat → Prop} {a w : World} (h : Kp O a w) : Kp O a w.drew := ⟨h.os, h.tape, h.output, h.size, h.block⟩
theorem Kp.drewN {O : Nat → Prop} {a w : World} (h : Kp O a w) (n : Nat) : Kp O a (w.drewN n) := ⟨h.os, h.tape, h.output, h.size, h.block⟩
theorem Kp.setCell {O : Nat → Prop} {a w : World} (h : Kp O a w) (p : Addr) (hp : a.heap.size ≤ p.block ∨ O p.block) (u : Value) : Kp O a (w.setCell p u) :=
  ⟨h.os, h.tape, h.output, by simpa [World.setCell] using h.size, fun i hi hn => (Below.heap_setCell w p u i (by
    rintro rfl
    rcases hp with hp | hp
    · omega
    · exact hn hp)).trans (h.block i hi hn)⟩
theorem Kp.grown {O : Nat → Prop} {a w w' : World} {row : Option Nat} (h : Kp O a w) (hg : w.grownBy w' row) (hr : ∀ g, row = some g → a.heap.size ≤ g ∨ O g) : Kp O a w' :=
  ⟨hg.os.trans h.os, hg.tape.trans h.tape, hg.output.trans h.output, Nat.le_trans h.size hg.size, fun i hi hn => (hg.block i (Nat.lt_of_lt_of_le hi h.size) (by
    intro e
    rcases hr i e.symm with h1 | h1
    · omega
    · exact hn h1)).trans (h.block i hi hn)⟩
theorem Kp.cell {O : Nat → Prop} {a w : World} (h : Kp O a w) {p : Addr} (hp : p.block < a.heap.size) (hO : ¬ O p.block) : w.cell? p = a.cell? p := World.cell?_of_block (h.block _ hp hO)
theorem Kp.frozen {O : Nat → Prop} {a w : World} (h : Kp O a w) {p : Addr} (hp : p.block < a.heap.size) (hO : ¬ O p.block) : w.frozen? p = a.frozen? p := World.frozen?_of_block (h.block _ hp hO)

theorem block_add (a : Addr) (n : Nat) : (a.add n).block = a.block := by unfold Addr.add; split <;> rfl
theorem add_add (a : Addr) (i j : Nat) : (a.add i).add j = a.add (i + j) := by
  unfold Addr.add
  by_cases hi : i = 0 <;> by_cases hj : j = 0 <;> simp [hi, hj, Nat.add_assoc]

/-- The cells at an address read as these values; the block is one of G. -/
def Rd (w : World) (G : Nat → Prop) (A : Option Addr) (xs : List Value) : Prop :=
  xs ≠ [] → ∃ ad, A = some ad ∧ ad.block < w.heap.size ∧ G ad.block ∧ ∀ j u, xs[j]? = some u → w.cell? (ad.add j) = some u
theorem Rd.none_ (w : World) (G : Nat → Prop) (A : Option Addr) : Rd w G A [] := fun h => absurd rfl h
theorem Rd.keep {w w' : World} {G : Nat → Prop} {A : Option Addr} {xs : List Value} (h : Rd w G A xs) (hs : w.heap.size ≤ w'.heap.size) (hk : ∀ i, i < w.heap.size → G i → w'.heap[i]? = w.heap[i]?) : Rd w' G A xs := fun hn => by
  obtain ⟨ad, e, hl, hg, hc⟩ := h hn
  refine ⟨ad, e, Nat.lt_of_lt_of_le hl hs, hg, fun j u hu => ?_⟩
  exact (World.cell?_of_block (w := w) (w' := w') (a := ad.add j) (by rw [block_add]; exact hk _ hl hg)).trans (hc j u hu)
theorem Rd.mono {w : World} {G G' : Nat → Prop} {A : Option Addr} {xs : List Value} (h : Rd w G A xs) (hG : ∀ i, i < w.heap.size → G i → G' i) : Rd w G' A xs := fun hn => by
  obtain ⟨ad, e, hl, hg, hc⟩ := h hn
  exact ⟨ad, e, hl, hG _ hl hg, hc⟩
theorem Rd.kp {w w' : World} {G O : Nat → Prop} {A : Option Addr} {xs : List Value} (h : Rd w G A xs) (k : Kp O w w') (hd : ∀ i, i < w.heap.size → G i → ¬ O i) : Rd w' G A xs :=
  h.keep k.size fun i hi hg => k.block i hi (hd i hi hg)
theorem Rd.below {w w' : World} {G : Nat → Prop} {A : Option Addr} {xs : List Value} (h : Rd w G A xs) (b : Below w.heap.size w w') : Rd w' G A xs :=
  h.keep b.size fun i hi _ => b.block i hi
theorem Rd.at_ {w : World} {G : Nat → Prop} {A : Option Addr} {xs : List Value} (h : Rd w G A xs) (k : Nat) (hk : k < xs.length) : ∃ ad, A = some ad ∧ ad.block < w.heap.size ∧ G ad.block ∧ ∀ j u, xs[j]? = some u → w.cell? (ad.add j) = some u :=
  h (by intro e; rw [e] at hk; cases hk)
/-- The address written out: a cell that is there has no inner spot. -/
theorem Rd.lit {w : World} {G : Nat → Prop} {A : Option Addr} {xs : List Value} (h : Rd w G A xs) (k : Nat) (hk : k < xs.length) : ∃ b o, A = some ⟨b, o, none⟩ ∧ b < w.heap.size ∧ G b ∧ ∀ j u, xs[j]? = some u → w.cell? ⟨b, o + j, none⟩ = some u := by
  obtain ⟨⟨b, o, s⟩, e, hl, hg, hc⟩ := h.at_ k hk
  have h0 := hc 0 _ (List.getElem?_eq_getElem (by omega : 0 < xs.length))
  have hs : s = none := by
    cases s with
    | none => rfl
    | some s =>
      exfalso
      have e0 : (⟨b, o, some s⟩ : Addr).add 0 = ⟨b, o, some s⟩ := by unfold Addr.add; simp
      rw [e0] at h0
      unfold World.cell? at h0
      split at h0 <;> simp at h0
  subst hs
  exact ⟨b, o, e, hl, hg, fun j u hu => by have := hc j u hu; rwa [Addr.add_lit] at this⟩
theorem Rd.sub {w : World} {G : Nat → Prop} {ad : Addr} {xs : List Value} (h : Rd w G (some ad) xs) (lo n : Nat) : Rd w G (some (ad.add lo)) ((xs.drop lo).take n) := fun hn => by
  have hx : xs ≠ [] := by rintro rfl; exact hn (by simp)
  obtain ⟨ad', e, hl, hg, hc⟩ := h hx
  obtain rfl := Option.some.inj e
  refine ⟨_, rfl, by rw [block_add]; exact hl, by rw [block_add]; exact hg, fun j u hu => ?_⟩
  rw [add_add]
  rw [List.getElem?_take] at hu
  split at hu
  · rw [List.getElem?_drop] at hu
    exact hc _ u hu
  · cases hu
theorem Rd.own {w : World} {base : Nat} {e : TypeId} {size n c : Nat} {A : Option Addr} {xs : List Value} (h : w.ownsRow base e size (.slice A n c) n xs) : Rd w (fun i => (Value.slice A n c).ownBlock = some i) A xs := fun hn => by
  rcases h.2 with ⟨hv, h0⟩ | ⟨g, cap, cur, hv, hb, hg, hnc, hcm, hcs, ht⟩
  · have hz : xs = [] := List.eq_nil_of_length_eq_zero (by rw [h.1, h0]; simp)
    exact absurd hz hn
  · injection hv with hv
    subst hv
    refine ⟨_, rfl, (Array.getElem?_eq_some_iff.1 hg).1, rfl, fun j u hu => ?_⟩
    have e1 : (⟨g, 0, none⟩ : Addr).add j = ⟨g, j, none⟩ := by unfold Addr.add; by_cases h0 : j = 0 <;> simp [h0]
    rw [e1, cell_of_row w g j cur e (0, 0) hg]
    rw [← ht] at hu
    rw [List.getElem?_take] at hu
    split at hu
    · simpa using hu
    · cases hu

/-! ## lists of things, each of some cells -/
def Els {α : Type} (E : α → List Value → Prop) : List α → List Value → Prop
  | [], xs => xs = []
  | a :: r, xs => ∃ cs rest, xs = cs ++ rest ∧ E a cs ∧ Els E r rest
theorem Els.mono {α : Type} {E E' : α → List Value → Prop} (h : ∀ a cs, E a cs → E' a cs) : ∀ {l : List α} {xs : List Value}, Els E l xs → Els E' l xs
  | [], _, hx => hx
  | _ :: _, _, ⟨cs, rest, e, ha, hr⟩ => ⟨cs, rest, e, h _ _ ha, hr.mono h⟩
theorem Els.append {α : Type} {E : α → List Value → Prop} : ∀ {l m : List α} {xs ys : List Value}, Els E l xs → Els E m ys → Els E (l ++ m) (xs ++ ys)
  | [], _, _, _, hx, hm => by subst hx; exact hm
  | _ :: _, _, _, _, ⟨cs, rest, e, ha, hr⟩, hm => ⟨cs, rest ++ _, by rw [e, List.append_assoc], ha, hr.append hm⟩
theorem Els.one {α : Type} {E : α → List Value → Prop} {a : α} {cs : List Value} (h : E a cs) : Els E [a] cs := ⟨cs, [], by simp, h, rfl⟩
theorem Els.length {α : Type} {E : α → List Value → Prop} {s : Nat} (hs : ∀ a cs, E a cs → cs.length = s) : ∀ {l : List α} {xs : List Value}, Els E l xs → xs.length = l.length * s
  | [], _, hx => by subst hx; simp
  | _ :: _, _, ⟨cs, rest, e, ha, hr⟩ => by rw [e, List.length_append, hs _ _ ha, hr.length hs, List.length_cons, Nat.add_mul]; omega
theorem Els.get {α : Type} {E : α → List Value → Prop} {s : Nat} (hs : ∀ a cs, E a cs → cs.length = s) : ∀ {l : List α} {xs : List Value} (_ : Els E l xs) (i : Nat) (hi : i < l.length), ∃ cs, E l[i] cs ∧ ∀ j, j < s → xs[i * s + j]? = cs[j]?
  | a :: r, _, ⟨cs, rest, e, ha, hr⟩, 0, _ => ⟨cs, ha, fun j hj => by rw [e, Nat.zero_mul, Nat.zero_add, List.getElem?_append_left (by rw [hs _ _ ha]; exact hj)]⟩
  | a :: r, _, ⟨cs, rest, e, ha, hr⟩, i + 1, hi => by
    obtain ⟨cs', h1, h2⟩ := hr.get hs i (by simpa using hi)
    refine ⟨cs', h1, fun j hj => ?_⟩
    have hl : (i + 1) * s + j = cs.length + (i * s + j) := by rw [hs _ _ ha, Nat.add_mul]; omega
    rw [e, hl, List.getElem?_append_right (by omega), Nat.add_sub_cancel_left]
    exact h2 j hj

/-- Bytes as cells. -/
def by8 (l : List UInt8) : List Value := l.map fun c => .int .u8 (c.toNat : Int)
theorem by8_len (l : List UInt8) : (by8 l).length = l.length := by unfold by8; simp
theorem by8_append (a b : List UInt8) : by8 (a ++ b) = by8 a ++ by8 b := by unfold by8; simp
theorem by8_get (l : List UInt8) (j : Nat) (h : j < l.length) : (by8 l)[j]? = some (.int .u8 (l[j].toNat : Int)) := by unfold by8; simp [h]
theorem by8_one (l : List UInt8) : ∀ u ∈ by8 l, u.oneCell' = true := by
  intro u hu
  unfold by8 at hu
  obtain ⟨c, _, rfl⟩ := List.mem_map.1 hu
  rfl
/-- A slice of bytes that reads as a list. -/
def Bs (w : World) (G : Nat → Prop) (v : Value) (l : List UInt8) : Prop := ∃ A c, v = .slice A l.length c ∧ l.length ≤ c ∧ c ≤ maxLen ∧ Rd w G A (by8 l)
theorem Bs.keep {w w' : World} {G : Nat → Prop} {v : Value} {l : List UInt8} (h : Bs w G v l) (hs : w.heap.size ≤ w'.heap.size) (hk : ∀ i, i < w.heap.size → G i → w'.heap[i]? = w.heap[i]?) : Bs w' G v l := by
  obtain ⟨A, c, e, h1, h2, h3⟩ := h
  exact ⟨A, c, e, h1, h2, h3.keep hs hk⟩
theorem Bs.mono {w : World} {G G' : Nat → Prop} {v : Value} {l : List UInt8} (h : Bs w G v l) (hG : ∀ i, i < w.heap.size → G i → G' i) : Bs w G' v l := by
  obtain ⟨A, c, e, h1, h2, h3⟩ := h
  exact ⟨A, c, e, h1, h2, h3.mono hG⟩
theorem Bs.below {w w' : World} {G : Nat → Prop} {v : Value} {l : List UInt8} (h : Bs w G v l) (b : Below w.heap.size w w') : Bs w' G v l := h.keep b.size fun i hi _ => b.block i hi
end Me
end Go.Proofs.YtojmcndiooiehaaDoor
