/- U8 Me VrPure VrRef MeApp VrRows -/
import Derived.Below
import Derived.Test.YtljlanhpjpjgaaaGreatDoorRows
import Derived.WalkKit
import Derived.Below
import Derived.Laws.OwnMore
import Derived.Laws.Rows
import Derived.Maps.AppendAt
import Derived.Deep.AppendLies
import Derived.Deep.Draws
import Derived.OwnWalk
import Derived.Lib.Hide
import Derived.WalkSpells
import Derived.WalkLawsBesides
import Derived.Deep.QuietTactic
import Derived.BigQuiet
import Derived.Lib.QuietBelow
import Derived.Lib.Strings
import Derived.Tactics
namespace Go.Proofs.YtljlanhpjpjgaaaGreatDoor
open Go.RowKit
theorem Bs1 {B : Nat} {a w : World} (h : Below B a w) {p : Addr} (u : Value) (hp : B ≤ p.block := by first | (simp; done) | omega | (simp; omega) | (simp at *; omega)) : Below B a (w.setCell p u) := h.setCell hp u
theorem Bs2 {B : Nat} {a w : World} (h : Below B a w) (o : Obj) (hB : B ≤ w.heap.size := by first | (simp; done) | omega | (simp; omega) | (simp at *; omega)) : Below B a (w.alloc o) := h.alloc hB o
theorem Bs3 {B C : Nat} {a b c : World} (h : Below B a b) (k : Below C b c) (hB : B ≤ C := by first | (simp; done) | omega | (simp; omega) | (simp at *; omega)) : Below B a c := h.trans (k.mono hB)
theorem Bz {B n : Nat} {a b : World} (hb : Below B a b) (h : n < a.heap.size := by first | assumption | (simp; done) | (simp; omega)) : n < b.heap.size := Nat.lt_of_lt_of_le h hb.size
theorem Bq {B : Nat} {a w : World} (h : Below B a w := by repeat (first | exact Below.refl _ _ | assumption | refine Bs1 ?_ _ | refine Bs2 ?_ _ | refine Below.drew ?_ | refine Bs3 ?_ (by assumption) | (refine Below.trans ?_ (Below.mono (below_regrown _ _ _) (by first | (simp; done) | omega | (simp; omega) | (simp at *; omega)))))) : Below B a w := h
theorem Bqn {B : Nat} {a w : World} (h : Below B a w := by repeat (first | exact Below.refl _ _ | assumption | refine Bs1 ?_ _ | refine Bs2 ?_ _ | refine Below.drew ?_ | refine below_drewN ?_ _ | refine Bs3 ?_ (by assumption) | (refine Below.trans ?_ (Below.mono (below_regrown _ _ _) (by first | (simp; done) | omega | (simp; omega) | (simp at *; omega)))))) : Below B a w := h
end Go.Proofs.YtljlanhpjpjgaaaGreatDoor
namespace Go.Proofs.YtljlanhpjpjgaaaGreatDoor
set_option maxRecDepth 100000
set_option maxHeartbeats 8000000
section
open Go.RowKit
theorem u8info : (Tryz.prog.info? 5).map (fun i => (i.zero, i.size, i.bytes)) = some (some (.int .u8 0), 1, 1) := by kernel_rfl
end
section
open Go.RowKit
namespace Me
structure Kp (O : Nat → Prop) (w w' : World) : Prop where
 os : w'.os = w.os
 tape : w'.tape = w.tape
 output : w'.output = w.output
 size : w.heap.size ≤ w'.heap.size
 block : ∀ k, k < w.heap.size → ¬ O k → w'.heap[k]? = w.heap[k]?
theorem Kp.refl (O : Nat → Prop) (w : World) : Kp O w w := ⟨rfl, rfl, rfl, Nat.le_refl _, fun _ _ _ => rfl⟩
theorem Kp.trans {O O' : Nat → Prop} {a b c : World} (h : Kp O a b) (k : Kp O' b c) (hO : ∀ i, i < a.heap.size → O' i → O i) : Kp O a c :=
 ⟨k.os.trans h.os, k.tape.trans h.tape, k.output.trans h.output, Nat.le_trans h.size k.size,
  fun i hi hn => (k.block i (Nat.lt_of_lt_of_le hi h.size) (fun x => hn (hO i hi x))).trans (h.block i hi hn)⟩
theorem Kp.mono {O O' : Nat → Prop} {a b : World} (h : Kp O a b) (hO : ∀ i, i < a.heap.size → O i → O' i) : Kp O' a b :=
 ⟨h.os, h.tape, h.output, h.size, fun i hi hn => h.block i hi (fun x => hn (hO i hi x))⟩
theorem Kp.of_below {O : Nat → Prop} {a b : World} (h : Below a.heap.size a b) : Kp O a b := ⟨h.os, h.tape, h.output, h.size, fun i hi _ => h.block i hi⟩
theorem Kp.below {O : Nat → Prop} {a b : World} {B : Nat} (h : Kp O a b) (hB : B ≤ a.heap.size) (hO : ∀ i, i < B → ¬ O i) : Below B a b :=
 ⟨h.os, h.tape, h.output, h.size, fun i hi => h.block i (Nat.lt_of_lt_of_le hi hB) (hO i hi)⟩
theorem Kp.alloc {O : Nat → Prop} {a w : World} (h : Kp O a w) (o : Obj) : Kp O a (w.alloc o) :=
 ⟨h.os, h.tape, h.output, Nat.le_trans h.size (by simp), fun i hi hn => (Below.heap_alloc w o i (Nat.lt_of_lt_of_le hi h.size)).trans (h.block i hi hn)⟩
theorem Kp.drew {O : Nat → Prop} {a w : World} (h : Kp O a w) : Kp O a w.drew := ⟨h.os, h.tape, h.output, h.size, h.block⟩
theorem Kp.drewN {O : Nat → Prop} {a w : World} (h : Kp O a w) (n : Nat) : Kp O a (w.drewN n) := ⟨h.os, h.tape, h.output, h.size, h.block⟩
theorem Kp.setCell {O : Nat → Prop} {a w : World} (h : Kp O a w) (p : Addr) (hp : a.heap.size ≤ p.block ∨ O p.block) (u : Value) : Kp O a (w.setCell p u) :=
 ⟨h.os, h.tape, h.output, by simpa [World.setCell] using h.size, fun i hi hn => (Below.heap_setCell w p u i (by
  rintro rfl
  rcases hp with hp | hp
  ·omega
  ·exact hn hp)).trans (h.block i hi hn)⟩
theorem Kp.grown {O : Nat → Prop} {a w w' : World} {row : Option Nat} (h : Kp O a w) (hg : w.grownBy w' row) (hr : ∀ g, row = some g → a.heap.size ≤ g ∨ O g) : Kp O a w' :=
 ⟨hg.os.trans h.os, hg.tape.trans h.tape, hg.output.trans h.output, Nat.le_trans h.size hg.size, fun i hi hn => (hg.block i (Nat.lt_of_lt_of_le hi h.size) (by
  intro e
  rcases hr i e.symm with h1 | h1
  ·omega
  ·exact hn h1)).trans (h.block i hi hn)⟩
theorem Kp.cell {O : Nat → Prop} {a w : World} (h : Kp O a w) {p : Addr} (hp : p.block < a.heap.size) (hO : ¬ O p.block) : w.cell? p = a.cell? p := World.cell?_of_block (h.block _ hp hO)
theorem Kp.frozen {O : Nat → Prop} {a w : World} (h : Kp O a w) {p : Addr} (hp : p.block < a.heap.size) (hO : ¬ O p.block) : w.frozen? p = a.frozen? p := World.frozen?_of_block (h.block _ hp hO)
theorem block_add (a : Addr) (n : Nat) : (a.add n).block = a.block := by unfold Addr.add; split <;> rfl
theorem add_add (a : Addr) (i j : Nat) : (a.add i).add j = a.add (i + j) := by
 unfold Addr.add
 by_cases hi : i = 0 <;> by_cases hj : j = 0 <;> simp [hi, hj, Nat.add_assoc]
def Rd (w : World) (G : Nat → Prop) (A : Option Addr) (xs : List Value) : Prop :=
 xs ≠ [] → ∃ ad, A = some ad ∧ ad.block < w.heap.size ∧ G ad.block ∧ ∀ j u, xs[j]? = some u → w.cell? (ad.add j) = some u
theorem Rd.none_ (w : World) (G : Nat → Prop) (A : Option Addr) : Rd w G A [] := fun h => absurd rfl h
theorem Rd.keep {w w' : World} {G : Nat → Prop} {A : Option Addr} {xs : List Value} (h : Rd w G A xs) (hs : w.heap.size ≤ w'.heap.size) (hk : ∀ i, i < w.heap.size → G i → w'.heap[i]? = w.heap[i]?) : Rd w' G A xs := fun hn => by
 obtain ⟨ad, e, hl, hg, hc⟩ := h hn
 refine ⟨ad, e, Nat.lt_of_lt_of_le hl hs, hg, fun j u hu => ?_⟩
 exact (World.cell?_of_block (w := w) (w' := w') (a := ad.add j) (by rw [block_add]; exact hk _ hl hg)).trans (hc j u hu)
theorem Rd.mono {w : World} {G G' : Nat → Prop} {A : Option Addr} {xs : List Value} (h : Rd w G A xs) (hG : ∀ i, i < w.heap.size → G i → G' i) : Rd w G' A xs := fun hn => by
 obtain ⟨ad, e, hl, hg, hc⟩ := h hn
 exact ⟨ad, e, hl, hG _ hl hg, hc⟩
theorem Rd.kp {w w' : World} {G O : Nat → Prop} {A : Option Addr} {xs : List Value} (h : Rd w G A xs) (k : Kp O w w') (hd : ∀ i, i < w.heap.size → G i → ¬ O i) : Rd w' G A xs :=
 h.keep k.size fun i hi hg => k.block i hi (hd i hi hg)
theorem Rd.below {w w' : World} {G : Nat → Prop} {A : Option Addr} {xs : List Value} (h : Rd w G A xs) (b : Below w.heap.size w w') : Rd w' G A xs :=
 h.keep b.size fun i hi _ => b.block i hi
theorem Rd.at_ {w : World} {G : Nat → Prop} {A : Option Addr} {xs : List Value} (h : Rd w G A xs) (k : Nat) (hk : k < xs.length) : ∃ ad, A = some ad ∧ ad.block < w.heap.size ∧ G ad.block ∧ ∀ j u, xs[j]? = some u → w.cell? (ad.add j) = some u :=
 h (by intro e; rw [e] at hk; cases hk)
theorem Rd.lit {w : World} {G : Nat → Prop} {A : Option Addr} {xs : List Value} (h : Rd w G A xs) (k : Nat) (hk : k < xs.length) : ∃ b o, A = some ⟨b, o, none⟩ ∧ b < w.heap.size ∧ G b ∧ ∀ j u, xs[j]? = some u → w.cell? ⟨b, o + j, none⟩ = some u := by
 obtain ⟨⟨b, o, s⟩, e, hl, hg, hc⟩ := h.at_ k hk
 have h0 := hc 0 _ (List.getElem?_eq_getElem (by omega : 0 < xs.length))
 have hs : s = none := by
  cases s with
  | none => rfl
  | some s =>
    exfalso
    have e0 : (⟨b, o, some s⟩ : Addr).add 0 = ⟨b, o, some s⟩ := by unfold Addr.add; simp
    rw [e0] at h0
    unfold World.cell? at h0
    split at h0 <;> simp at h0
 subst hs
 exact ⟨b, o, e, hl, hg, fun j u hu => by have := hc j u hu; rwa [Addr.add_lit] at this⟩
theorem Rd.sub {w : World} {G : Nat → Prop} {ad : Addr} {xs : List Value} (h : Rd w G (some ad) xs) (lo n : Nat) : Rd w G (some (ad.add lo)) ((xs.drop lo).take n) := fun hn => by
 have hx : xs ≠ [] := by rintro rfl; exact hn (by simp)
 obtain ⟨ad', e, hl, hg, hc⟩ := h hx
 obtain rfl := Option.some.inj e
 refine ⟨_, rfl, by rw [block_add]; exact hl, by rw [block_add]; exact hg, fun j u hu => ?_⟩
 rw [add_add]
 rw [List.getElem?_take] at hu
 split at hu
 ·rw [List.getElem?_drop] at hu
  exact hc _ u hu
 ·cases hu
theorem Rd.own {w : World} {base : Nat} {e : TypeId} {size n c : Nat} {A : Option Addr} {xs : List Value} (h : w.ownsRow base e size (.slice A n c) n xs) : Rd w (fun i => (Value.slice A n c).ownBlock = some i) A xs := fun hn => by
 rcases h.2 with ⟨hv, h0⟩ | ⟨g, cap, cur, hv, hb, hg, hnc, hcm, hcs, ht⟩
 ·have hz : xs = [] := List.eq_nil_of_length_eq_zero (by rw [h.1, h0]; simp)
  exact absurd hz hn
 ·injection hv with hv
  subst hv
  refine ⟨_, rfl, (Array.getElem?_eq_some_iff.1 hg).1, rfl, fun j u hu => ?_⟩
  have e1 : (⟨g, 0, none⟩ : Addr).add j = ⟨g, j, none⟩ := by unfold Addr.add; by_cases h0 : j = 0 <;> simp [h0]
  rw [e1, cell_of_row w g j cur e (0, 0) hg]
  rw [← ht] at hu
  rw [List.getElem?_take] at hu
  split at hu
  ·simpa using hu
  ·cases hu
def Els {α : Type} (E : α → List Value → Prop) : List α → List Value → Prop
 | [], xs => xs = []
 | a :: r, xs => ∃ cs rest, xs = cs ++ rest ∧ E a cs ∧ Els E r rest
theorem Els.mono {α : Type} {E E' : α → List Value → Prop} (h : ∀ a cs, E a cs → E' a cs) : ∀ {l : List α} {xs : List Value}, Els E l xs → Els E' l xs
 | [], _, hx => hx
 | _ :: _, _, ⟨cs, rest, e, ha, hr⟩ => ⟨cs, rest, e, h _ _ ha, hr.mono h⟩
theorem Els.append {α : Type} {E : α → List Value → Prop} : ∀ {l m : List α} {xs ys : List Value}, Els E l xs → Els E m ys → Els E (l ++ m) (xs ++ ys)
 | [], _, _, _, hx, hm => by subst hx; exact hm
 | _ :: _, _, _, _, ⟨cs, rest, e, ha, hr⟩, hm => ⟨cs, rest ++ _, by rw [e, List.append_assoc], ha, hr.append hm⟩
theorem Els.one {α : Type} {E : α → List Value → Prop} {a : α} {cs : List Value} (h : E a cs) : Els E [a] cs := ⟨cs, [], by simp, h, rfl⟩
theorem Els.length {α : Type} {E : α → List Value → Prop} {s : Nat} (hs : ∀ a cs, E a cs → cs.length = s) : ∀ {l : List α} {xs : List Value}, Els E l xs → xs.length = l.length * s
 | [], _, hx => by subst hx; simp
 | _ :: _, _, ⟨cs, rest, e, ha, hr⟩ => by rw [e, List.length_append, hs _ _ ha, hr.length hs, List.length_cons, Nat.add_mul]; omega
theorem Els.get {α : Type} {E : α → List Value → Prop} {s : Nat} (hs : ∀ a cs, E a cs → cs.length = s) : ∀ {l : List α} {xs : List Value} (_ : Els E l xs) (i : Nat) (hi : i < l.length), ∃ cs, E l[i] cs ∧ ∀ j, j < s → xs[i * s + j]? = cs[j]?
 | a :: r, _, ⟨cs, rest, e, ha, hr⟩, 0, _ => ⟨cs, ha, fun j hj => by rw [e, Nat.zero_mul, Nat.zero_add, List.getElem?_append_left (by rw [hs _ _ ha]; exact hj)]⟩
 | a :: r, _, ⟨cs, rest, e, ha, hr⟩, i + 1, hi => by
   obtain ⟨cs', h1, h2⟩ := hr.get hs i (by simpa using hi)
   refine ⟨cs', h1, fun j hj => ?_⟩
   have hl : (i + 1) * s + j = cs.length + (i * s + j) := by rw [hs _ _ ha, Nat.add_mul]; omega
   rw [e, hl, List.getElem?_append_right (by omega), Nat.add_sub_cancel_left]
   exact h2 j hj
def by8 (l : List UInt8) : List Value := l.map fun c => .int .u8 (c.toNat : Int)
theorem by8_len (l : List UInt8) : (by8 l).length = l.length := by unfold by8; simp
theorem by8_append (a b : List UInt8) : by8 (a ++ b) = by8 a ++ by8 b := by unfold by8; simp
theorem by8_get (l : List UInt8) (j : Nat) (h : j < l.length) : (by8 l)[j]? = some (.int .u8 (l[j].toNat : Int)) := by unfold by8; simp [h]
theorem by8_one (l : List UInt8) : ∀ u ∈ by8 l, u.oneCell' = true := by
 intro u hu
 unfold by8 at hu
 obtain ⟨c, _, rfl⟩ := List.mem_map.1 hu
 rfl
def Bs (w : World) (G : Nat → Prop) (v : Value) (l : List UInt8) : Prop := ∃ A c, v = .slice A l.length c ∧ l.length ≤ c ∧ c ≤ maxLen ∧ Rd w G A (by8 l)
theorem Bs.keep {w w' : World} {G : Nat → Prop} {v : Value} {l : List UInt8} (h : Bs w G v l) (hs : w.heap.size ≤ w'.heap.size) (hk : ∀ i, i < w.heap.size → G i → w'.heap[i]? = w.heap[i]?) : Bs w' G v l := by
 obtain ⟨A, c, e, h1, h2, h3⟩ := h
 exact ⟨A, c, e, h1, h2, h3.keep hs hk⟩
theorem Bs.mono {w : World} {G G' : Nat → Prop} {v : Value} {l : List UInt8} (h : Bs w G v l) (hG : ∀ i, i < w.heap.size → G i → G' i) : Bs w G' v l := by
 obtain ⟨A, c, e, h1, h2, h3⟩ := h
 exact ⟨A, c, e, h1, h2, h3.mono hG⟩
theorem Bs.below {w w' : World} {G : Nat → Prop} {v : Value} {l : List UInt8} (h : Bs w G v l) (b : Below w.heap.size w w') : Bs w' G v l := h.keep b.size fun i hi _ => b.block i hi
end Me
end
section
namespace Vf
structure Fl where
 name : List UInt8
 b : List UInt8
structure Ac where
 kind : Int
 name : List UInt8
 off : Nat
 p : List UInt8
def ixFrom (n : List UInt8) : Nat → List Fl → Int
 | _, [] => -1
 | k, f :: r => if f.name == n then (k : Int) else ixFrom n (k + 1) r
def ix (l : List Fl) (n : List UInt8) : Int := ixFrom n 0 l
theorem ixFrom_skip (n : List UInt8) : ∀ (l : List Fl) (k j : Nat), j ≤ l.length → (∀ i (h : i < l.length), i < j → (l[i].name == n) = false) → ixFrom n k l = ixFrom n (k + j) (l.drop j)
 | _, _, 0, _, _ => rfl
 | [], k, j + 1, h, _ => by simp at h
 | f :: r, k, j + 1, h, hn => by
   have h0 := hn 0 (by simp) (by omega)
   simp only [List.getElem_cons_zero] at h0
   rw [ixFrom, h0]
   simp only [Bool.false_eq_true, if_false]
   rw [ixFrom_skip n r (k + 1) j (by simpa using h) (fun i hi hj => by have := hn (i + 1) (by simpa using hi) (by omega); simpa using this), List.drop_succ_cons]
   congr 1
   omega
theorem ix_hit {l : List Fl} {n : List UInt8} {k : Nat} (hk : k < l.length) (hn : ∀ i (h : i < l.length), i < k → (l[i].name == n) = false) (h : (l[k].name == n) = true) : ix l n = k := by
 unfold ix
 rw [ixFrom_skip n l 0 k (by omega) hn, List.drop_eq_getElem_cons hk, ixFrom, h]
 simp
theorem ix_miss {l : List Fl} {n : List UInt8} (hn : ∀ i (h : i < l.length), i < l.length → (l[i].name == n) = false) : ix l n = -1 := by
 unfold ix
 rw [ixFrom_skip n l 0 l.length (Nat.le_refl _) hn, List.drop_length]
 rfl
theorem ixFrom_bd (n : List UInt8) : ∀ (l : List Fl) (k : Nat), ixFrom n k l = -1 ∨ ((k : Int) ≤ ixFrom n k l ∧ ixFrom n k l < (k : Int) + l.length)
 | [], _ => .inl rfl
 | f :: r, k => by
   rw [ixFrom]
   split
   ·right; simp; omega
   ·rcases ixFrom_bd n r (k + 1) with h | h
    ·exact .inl h
    ·right; simp at h ⊢; omega
theorem ix_bd (l : List Fl) (n : List UInt8) : -1 ≤ ix l n ∧ ix l n < l.length := by
 unfold ix
 rcases ixFrom_bd n l 0 with h | h
 ·omega
 ·simp at h; omega
def upd (b : List UInt8) (off : Nat) (p : List UInt8) : List UInt8 := b.take off ++ p ++ b.drop (off + p.length)
theorem upd_len {b : List UInt8} {off : Nat} {p : List UInt8} (h : off + p.length ≤ b.length) : (upd b off p).length = b.length := by
 unfold upd
 simp
 omega
def one (a : Ac) (i : Int) (k : Nat) (x : Fl) : List Fl :=
 if (k : Int) = i ∧ a.kind = 2 then [⟨x.name, upd x.b a.off a.p⟩] else if (k : Int) = i ∧ a.kind = 3 then [] else [x]
def goes (a : Ac) (i : Int) : Nat → List Fl → List Fl
 | _, [] => []
 | k, x :: r => one a i k x ++ goes a i (k + 1) r
def does (l : List Fl) (a : Ac) : List Fl := goes a (ix l a.name) 0 l ++ if a.kind = 1 then [⟨a.name, a.p⟩] else []
theorem goes_append (a : Ac) (i : Int) : ∀ (l m : List Fl) (k : Nat), goes a i k (l ++ m) = goes a i k l ++ goes a i (k + l.length) m
 | [], _, _ => rfl
 | x :: r, m, k => by
   rw [List.cons_append, goes, goes, goes_append a i r m (k + 1), List.append_assoc, List.length_cons]
   congr 3
   omega
theorem goes_take (a : Ac) (i : Int) (l : List Fl) (k : Nat) (h : k < l.length) : goes a i 0 (l.take (k + 1)) = goes a i 0 (l.take k) ++ one a i k l[k] := by
 rw [List.take_succ_eq_append_getElem h, goes_append]
 congr 1
 rw [List.length_take, Nat.zero_add, Nat.min_eq_left (by omega)]
 simp [goes]
theorem one_len (a : Ac) (i : Int) (k : Nat) (x : Fl) : (one a i k x).length ≤ 1 := by
 unfold one
 split
 ·simp
 ·split <;> simp
theorem goes_len (a : Ac) (i : Int) : ∀ (l : List Fl) (k : Nat), (goes a i k l).length ≤ l.length
 | [], _ => by simp [goes]
 | x :: r, k => by
   have h1 := one_len a i k x
   have h2 := goes_len a i r (k + 1)
   rw [goes, List.length_append, List.length_cons]
   omega
theorem does_len (l : List Fl) (a : Ac) : (does l a).length ≤ l.length + 1 := by
 have h := goes_len a (ix l a.name) l 0
 unfold does
 rw [List.length_append]
 split
 ·simp; omega
 ·simp; omega
end Vf
end
section
open Go.RowKit
open Me
theorem ret_i64 {a b : Int} (h : a = b) : Ending.returned (.int .i64 a) = .returned (.int .i64 b) := by rw [h]
theorem ret_bool {a b : Bool} (h : a = b) : Ending.returned (.bool a) = .returned (.bool b) := by rw [h]
namespace Vf
def FlC (w : World) (G : Nat → Prop) (f : Fl) (cs : List Value) : Prop := ∃ v, cs = [.string ⟨f.name.toArray⟩, v] ∧ Bs w G v f.b
theorem FlC.two {w : World} {G : Nat → Prop} : ∀ f cs, FlC w G f cs → cs.length = 2 := by
 rintro f cs ⟨v, rfl, _⟩; rfl
def Fs (w : World) (G : Nat → Prop) (v : Value) (l : List Fl) : Prop := ∃ A c xs, v = .slice A l.length c ∧ l.length ≤ c ∧ c ≤ maxLen ∧ Rd w G A xs ∧ Els (FlC w G) l xs
def is (n : List UInt8) : Bool := decide (1 ≤ n.length ∧ n.length ≤ 255)
end Vf
theorem is_any (n : List UInt8) (w : World) :
 Calls Tryz.prog 36 #[.string ⟨n.toArray⟩] w fun e w' => e = .returned (.bool (Vf.is n)) ∧ w = w' := by
 by_cases h1 : (1 : Int) ≤ (n.length : Int)
 ·by_cases h2 : (n.length : Int) ≤ 255
  ·have H : Hid (Vf.is n = true) := Lib.hid (by unfold Vf.is; simp; omega)
   go_enter Tryz.func36, Tryz.ntmps36
   go_wp2
   go_ret
   exact ⟨ret_bool (by rw [H.out]), rfl⟩
  ·have H : Hid (Vf.is n = false) := Lib.hid (by unfold Vf.is; simp; omega)
   go_enter Tryz.func36, Tryz.ntmps36
   go_wp2
   go_ret
   exact ⟨ret_bool (by rw [H.out]), rfl⟩
 ·have H : Hid (Vf.is n = false) := Lib.hid (by unfold Vf.is; simp; omega)
  go_enter Tryz.func36, Tryz.ntmps36
  go_wp2
  go_ret
  exact ⟨ret_bool (by rw [H.out]), rfl⟩
theorem find_any (l : List Vf.Fl) (n : List UInt8) (v : Value) (G : Nat → Prop) (w : World) (hf : Vf.Fs w G v l) (hl : l.length ≤ 1048576) :
 Calls Tryz.prog 35 #[v, .string ⟨n.toArray⟩] w fun e w' => e = .returned (.int .i64 (Vf.ix l n)) ∧ w = w' := by
 obtain ⟨A, c, xs, rfl, hc, hcm, hrd, hels⟩ := hf
 unfold maxLen at hcm
 have hl' : (l.length : Int) ≤ 1048576 := by omega
 have HE := Lib.hid hels
 have HR := Lib.hid hrd
 clear hels hrd
 go_enter Tryz.func35, Tryz.ntmps35
 go_wp2_with fail
 go_loop [5] (fun i => ∃ k : Nat, k ≤ l.length ∧ i = .int .i64 k ∧ Hid (∀ i (h : i < l.length), i < k → (l[i].name == n) = false)) (fun i => l.length - (intOf i).toNat)
 case atStart => exact ⟨0, Nat.zero_le _, rfl, Lib.hid (fun i _ h => absurd h (by omega))⟩
 case round =>
  obtain ⟨k, hk, rfl, hn⟩ := hrel
  by_cases hlt : k < l.length
  ·obtain ⟨cs, ⟨v, rfl, hbs⟩, hx⟩ := HE.out.get Vf.FlC.two k hlt
   have hxl := HE.out.length Vf.FlC.two
   obtain ⟨ad, rfl, hlt2, hg, hcell⟩ := HR.out.at_ (k * 2) (by omega)
   have hcl : w.cell? (ad.add (k * 2)) = some (.string ⟨(l[k].name).toArray⟩) := hcell _ _ (hx 0 (by omega))
   clear hx hxl hcell hbs
   cases hb : (l[k].name == n)
   ·have HB : Hid ((l[k].name == n) = false) := Lib.hid hb
    go_wp2_with fail
    go_round
    case rel =>
     refine ⟨k + 1, by omega, by go_num, Lib.hid (fun i hi hik => ?_)⟩
     by_cases e : i = k
     ·subst e; exact HB.out
     ·exact hn.out i hi (by omega)
    case measure => simp [intOf]; omega
   ·have HB : Hid ((l[k].name == n) = true) := Lib.hid hb
    go_wp2_with fail
    go_ret
    exact ⟨ret_i64 (Vf.ix_hit hlt hn.out HB.out).symm, rfl⟩
  ·obtain rfl : k = l.length := by omega
   go_wp2_with fail
   go_ret
   exact ⟨ret_i64 (Vf.ix_miss hn.out).symm, rfl⟩
end
section
open Go.RowKit
namespace Me
section
variable {P : Program} (w : World)
theorem run_app (base : Nat) (t ty e : TypeId) (i : TypeInfo) (z : Value) (size bytes : Nat) (ht : P.underlying t = some (.slice e)) (hi : P.info? e = some i) (hz : i.zero = some z)
 (hsize : i.size = size) (hby : i.bytes = bytes) (hzs : z.cells.size = size) (hsz : 0 < size)
 (v : Value) (n : Nat) (xs : List Value) (hown : w.ownsRow base e size v n xs)
 (G : Nat → Prop) (A : Option Addr) (m c : Nat) (news : List Value) (hl : news.length = m * size) (hr : Rd w G A news) (h1 : ∀ u ∈ news, u.oneCell' = true)
 (h63 : n + m ≤ maxLen) (hbytes : (n + m) * bytes ≤ 140737488355328) (hbase : base ≤ w.heap.size) :
 ∃ v' w', (Builtin.append_ #[t, t] ty #[v, .slice A m c]).run P w = .ok v' w' ∧ w'.ownsRow base e size v' (n + m) (xs ++ news) ∧ w.grownBy w' v.ownBlock ∧
  (v'.ownBlock = v.ownBlock ∨ v'.ownBlock = some w.heap.size) ∧ (v' = .slice none 0 0 → v = .slice none 0 0) := by
 by_cases hn : news = []
 ·subst hn
  have hm : m = 0 := by
   rcases Nat.eq_zero_or_pos m with h | h
   ·exact h
   ·have := Nat.mul_pos h hsz; simp at hl; omega
  subst hm
  cases A with
  | none =>
    refine ⟨v, w, ?_, by simpa using hown, World.grownBy.refl w _, .inl rfl, id⟩
    rcases hown.2 with ⟨rfl, rfl⟩ | ⟨g, cap, cur, rfl, _, _, hnc, _⟩
    ·simp [Builtin.append_, run_underlying ht, sizeOf, typeInfo, hi, Builtin.lenOf, Builtin.firstCells]
    ·simp [Builtin.append_, run_underlying ht, sizeOf, typeInfo, hi, Builtin.lenOf, Builtin.firstCells, hnc, storeCells]
  | some ad =>
    obtain ⟨v', w', hrun, h2, h3, h4, h5⟩ := run_append_own_at (P := P) w base t ty e i z size bytes ht hi hz hsize hby hzs hsz v n xs hown ad 0 c [] (by simp) (fun j u hu => by simp at hu) (fun u hu => by cases hu) (by omega) (by simpa using hbytes) hbase
    exact ⟨v', w', hrun, h2, h3, h5, fun e => (h4.1 e).1⟩
 ·obtain ⟨ad, rfl, _, _, hc⟩ := hr hn
  obtain ⟨v', w', hrun, h2, h3, h4, h5⟩ := run_append_own_at (P := P) w base t ty e i z size bytes ht hi hz hsize hby hzs hsz v n xs hown ad m c news hl hc h1 h63 hbytes hbase
  exact ⟨v', w', hrun, h2, h3, h5, fun e => (h4.1 e).1⟩
theorem wp_app {o : Oper} {a : Act} {K : Act → World → Prop} {Q : Exit → Act → World → Prop} (s x : Operand) (t : TypeId)
 (ho : o.op = .call { callee := .builtin .append, args := #[s, x], argTypes := #[t, t] })
 (base : Nat) (e : TypeId) (i : TypeInfo) (z : Value) (size bytes : Nat) (ht : P.underlying t = some (.slice e)) (hi : P.info? e = some i) (hz : i.zero = some z)
 (hsize : i.size = size) (hby : i.bytes = bytes) (hzs : z.cells.size = size) (hsz : 0 < size)
 (v : Value) (n : Nat) (xs : List Value) (hs : a.eval s = v) (hown : w.ownsRow base e size v n xs)
 (G : Nat → Prop) (A : Option Addr) (m c : Nat) (news : List Value) (hx : a.eval x = .slice A m c) (hl : news.length = m * size) (hr : Rd w G A news) (h1 : ∀ u ∈ news, u.oneCell' = true)
 (h63 : n + m ≤ maxLen) (hbytes : (n + m) * bytes ≤ 140737488355328) (hbase : base ≤ w.heap.size)
 (h : ∀ v' w', w'.ownsRow base e size v' (n + m) (xs ++ news) → w.grownBy w' v.ownBlock → (v'.ownBlock = v.ownBlock ∨ v'.ownBlock = some w.heap.size) → (v' = .slice none 0 0 → v = .slice none 0 0) → K (a.put o.dst v') w') : o.wp P a w K Q := by
 obtain ⟨v', w', hrun, h2, h3, h4, h5⟩ := run_app (P := P) w base t o.type e i z size bytes ht hi hz hsize hby hzs hsz v n xs hown G A m c news hl hr h1 h63 hbytes hbase
 unfold Oper.wp execOp
 simp only [ho, resolve, invoke, builtin, Sem.run_bind, Sem.run_pure, Result.andThen_ok, List.map_toArray, List.map_cons, List.map_nil, hs, hx, hrun]
 exact h v' w' h2 h3 h4 h5
theorem wpList_app {ops : Array Oper} {rest : List Oper} {o : Oper} {a : Act} {Q : Exit → Act → World → Prop} (hgd : o.guard = none) (s x : Operand) (t : TypeId)
 (ho : o.op = .call { callee := .builtin .append, args := #[s, x], argTypes := #[t, t] })
 (base : Nat) (e : TypeId) (i : TypeInfo) (z : Value) (size bytes : Nat) (ht : P.underlying t = some (.slice e)) (hi : P.info? e = some i) (hz : i.zero = some z)
 (hsize : i.size = size) (hby : i.bytes = bytes) (hzs : z.cells.size = size) (hsz : 0 < size)
 (v : Value) (n : Nat) (xs : List Value) (hs : a.eval s = v) (hown : w.ownsRow base e size v n xs)
 (G : Nat → Prop) (A : Option Addr) (m c : Nat) (news : List Value) (hx : a.eval x = .slice A m c) (hl : news.length = m * size) (hr : Rd w G A news) (h1 : ∀ u ∈ news, u.oneCell' = true)
 (h63 : n + m ≤ maxLen) (hbytes : (n + m) * bytes ≤ 140737488355328) (hbase : base ≤ w.heap.size)
 (h : ∀ v' w', w'.ownsRow base e size v' (n + m) (xs ++ news) → w.grownBy w' v.ownBlock → (v'.ownBlock = v.ownBlock ∨ v'.ownBlock = some w.heap.size) → (v' = .slice none 0 0 → v = .slice none 0 0) → wpList P ops Q rest (a.put o.dst v') w') : wpList P ops Q (o :: rest) a w :=
 wpList_plain hgd fun _ hK => wp_app w s x t ho base e i z size bytes ht hi hz hsize hby hzs hsz v n xs hs hown G A m c news hx hl hr h1 h63 hbytes hbase fun v' w' h2 h3 h4 h5 => hK _ _ (h v' w' h2 h3 h4 h5)
theorem step_app {ops : Array Oper} {o : Oper} {a : Act} {K : Act → World → Prop} {Q : Exit → Act → World → Prop} {E : Prop} (hgd : o.guard = none) (s x : Operand) (t : TypeId)
 (ho : o.op = .call { callee := .builtin .append, args := #[s, x], argTypes := #[t, t] })
 (base : Nat) (e : TypeId) (i : TypeInfo) (z : Value) (size bytes : Nat) (ht : P.underlying t = some (.slice e)) (hi : P.info? e = some i) (hz : i.zero = some z)
 (hsize : i.size = size) (hby : i.bytes = bytes) (hzs : z.cells.size = size) (hsz : 0 < size)
 (v : Value) (n : Nat) (xs : List Value) (hs : a.eval s = v) (hown : w.ownsRow base e size v n xs)
 (G : Nat → Prop) (A : Option Addr) (m c : Nat) (news : List Value) (hx : a.eval x = .slice A m c) (hl : news.length = m * size) (hr : Rd w G A news) (h1 : ∀ u ∈ news, u.oneCell' = true)
 (h63 : n + m ≤ maxLen) (hbytes : (n + m) * bytes ≤ 140737488355328) (hbase : base ≤ w.heap.size)
 (h : ∀ v' w', w'.ownsRow base e size v' (n + m) (xs ++ news) → w.grownBy w' v.ownBlock → (v'.ownBlock = v.ownBlock ∨ v'.ownBlock = some w.heap.size) → (v' = .slice none 0 0 → v = .slice none 0 0) → K (a.put o.dst v') w') :
 if Region.wanted o (yielded ops a.tmps) = true then Oper.wp P o a w K Q else E := by
 have hw : Region.wanted o (yielded ops a.tmps) = true := by simp [Region.wanted, hgd]
 rw [if_pos hw]
 exact wp_app w s x t ho base e i z size bytes ht hi hz hsize hby hzs hsz v n xs hs hown G A m c news hx hl hr h1 h63 hbytes hbase h
end
theorem owns_keep {w w' : World} {base : Nat} {e : TypeId} {size n : Nat} {v : Value} {xs : List Value} (h : w.ownsRow base e size v n xs) (hk : ∀ g, v.ownBlock = some g → w'.heap[g]? = w.heap[g]?) : w'.ownsRow base e size v n xs := by
 refine ⟨h.1, ?_⟩
 rcases h.2 with hn | ⟨g, cap, cur, rfl, hb, hg, rest⟩
 ·exact .inl hn
 ·exact .inr ⟨g, cap, cur, rfl, hb, (hk g rfl).trans hg, rest⟩
theorem Rd.fresh (W : World) (cs : List Value) (t : TypeId) (n : Nat) (hn : n = W.heap.size) : Rd (W.alloc (.cells cs.toArray t)) (fun b => b = n) (some ⟨n, 0, none⟩) cs := fun _ => by
 subst hn
 refine ⟨_, rfl, by simp, rfl, fun j u hu => ?_⟩
 rw [Addr.add_lit, Nat.zero_add, World.cell?_alloc_new]
 simpa using hu
theorem Bs.own {w : World} {base : Nat} {e : TypeId} {v : Value} {l : List UInt8} (h : w.ownsRow base e 1 v l.length (by8 l)) : Bs w (fun i => base ≤ i) v l := by
 rcases h.2 with ⟨hv, h0⟩ | ⟨g, cap, cur, hv, hb, hg, hnc, hcm, hcs, ht⟩
 ·have hz : l = [] := List.eq_nil_of_length_eq_zero h0
  subst hz
  exact ⟨none, 0, hv, Nat.le_refl _, Nat.zero_le _, Rd.none_ _ _ _⟩
 ·refine ⟨some ⟨g, 0, none⟩, cap, hv, hnc, hcm, ?_⟩
  rw [hv] at h
  refine (Rd.own h).mono fun i _ hi => ?_
  have : g = i := by simpa [Value.ownBlock] using hi
  omega
end Me
theorem own_slice {base : Nat} {w : World} {v : Value} {e : TypeId} {s n : Nat} {xs : List Value} (h : w.ownsRow base e s v n xs) : ∃ A n c, v = .slice A n c := by
 rcases h.2 with ⟨rfl, _⟩ | ⟨g', cap, cur, rfl, _⟩
 ·exact ⟨_, _, _, rfl⟩
 ·exact ⟨_, _, _, rfl⟩
theorem lowBox' {w W : World} {o : Obj} (h : Below (w.heap.size + 1) (w.alloc o) W) : Below w.heap.size w W := ((Below.refl _ _).alloc (Nat.le_refl _) _).trans (h.mono (Nat.le_succ _))
end
section
open Go.RowKit
open Me
namespace Vf
def BsC (w : World) (G : Nat → Prop) (b : List UInt8) (cs : List Value) : Prop := ∃ v, cs = [v] ∧ Bs w G v b
theorem BsC.one {w : World} {G : Nat → Prop} : ∀ b cs, BsC w G b cs → cs.length = 1 := by
 rintro b cs ⟨v, rfl, _⟩; rfl
def Ps (w : World) (G : Nat → Prop) (v : Value) (l : List (List UInt8)) : Prop := ∃ A c xs, v = .slice A l.length c ∧ l.length ≤ c ∧ c ≤ maxLen ∧ Rd w G A xs ∧ Els (BsC w G) l xs
theorem BsC.keep {w w' : World} {G : Nat → Prop} (hs : w.heap.size ≤ w'.heap.size) (hk : ∀ i, i < w.heap.size → G i → w'.heap[i]? = w.heap[i]?) (b : List UInt8) (cs : List Value) (h : BsC w G b cs) : BsC w' G b cs := by
 obtain ⟨v, e, hb⟩ := h
 exact ⟨v, e, hb.keep hs hk⟩
theorem Ps.keep {w w' : World} {G : Nat → Prop} {v : Value} {l : List (List UInt8)} (h : Ps w G v l) (hs : w.heap.size ≤ w'.heap.size) (hk : ∀ i, i < w.heap.size → G i → w'.heap[i]? = w.heap[i]?) : Ps w' G v l := by
 obtain ⟨A, c, xs, e, h1, h2, h3, h4⟩ := h
 exact ⟨A, c, xs, e, h1, h2, h3.keep hs hk, h4.mono fun b cs hb => hb.keep hs hk⟩
theorem flat_take (l : List (List UInt8)) (k : Nat) (h : k < l.length) : (l.take (k + 1)).flatten = (l.take k).flatten ++ l[k] := by
 rw [List.take_succ_eq_append_getElem h, List.flatten_append]
 simp
theorem flat_le (l : List (List UInt8)) (k : Nat) : (l.take k).flatten.length ≤ l.flatten.length := by
 conv => rhs; rw [← List.take_append_drop k l]
 rw [List.flatten_append, List.length_append]
 omega
def Made (w : World) (l : List UInt8) (e : Ending) (w' : World) : Prop := ∃ v, e = .returned v ∧ Bs w' (fun i => w.heap.size ≤ i) v l ∧ Below w.heap.size w w'
end Vf
theorem rows_any (ps : List (List UInt8)) (v : Value) (G : Nat → Prop) (w : World) (hp : Vf.Ps w G v ps) (hl : ps.length ≤ 1048576) (ht : ps.flatten.length ≤ 4294967296) :
 Calls Tryz.prog 49 #[v] w (Vf.Made w ps.flatten) := by
 obtain ⟨i0, hi0, hz0, hz1, hz2⟩ := info_parts u8info
 have HI := Lib.hid hi0
 have HZ := Lib.hid (And.intro hz0 (And.intro hz1 hz2))
 clear hi0 hz0 hz1 hz2
 obtain ⟨A, c, xs, rfl, hc, hcm, hrd, hels⟩ := hp
 unfold maxLen at hcm
 have HR := Lib.hid hrd
 have HE := Lib.hid hels
 have hl' : (ps.length : Int) ≤ 1048576 := by omega
 clear hrd hels
 go_enter Tryz.func49, Tryz.ntmps49
 go_wp2_with fail
 go_loopw [3, 4] (fun b i wr => ∃ (k : Nat) (bv : Value), k ≤ ps.length ∧ i = .int .i64 k ∧ bv = b ∧ Hid (wr.ownsRow w.heap.size 5 1 bv (ps.take k).flatten.length (by8 (ps.take k).flatten)) ∧ Below w.heap.size w wr) (fun _ i _ => ps.length - (intOf i).toNat)
 case atStart =>
  exact ⟨0, _, Nat.zero_le _, rfl, rfl, Lib.hid ⟨by simp [by8], .inr ⟨w.heap.size, 0, #[], rfl, Nat.le_refl _, heap_alloc_new w _, Nat.le_refl _, Nat.zero_le _, rfl, by simp [by8]⟩⟩, (Below.refl _ _).alloc (Nat.le_refl _) _⟩
 case round =>
  obtain ⟨k, bv, hk, rfl, rfl, hown, hbel⟩ := hrel
  by_cases hlt : k < ps.length
  ·have hR := HR.out.below hbel
   have hE : Els (Vf.BsC wr G) ps xs := HE.out.mono fun b cs hb => hb.keep hbel.size (fun i hi _ => hbel.block i hi)
   obtain ⟨cs, ⟨v, rfl, hbs⟩, hx⟩ := hE.get Vf.BsC.one k hlt
   have hxl := hE.length Vf.BsC.one
   obtain ⟨ad, rfl, hlt2, hg, hcell⟩ := hR.at_ (k * 1) (by omega)
   have hcl : wr.cell? (ad.add k) = some v := by have := hcell _ _ (hx 0 (by omega)); simpa using this
   obtain ⟨A2, c2, rfl, hc2, hcm2, hrd2⟩ := hbs
   have HRD := Lib.hid hrd2
   have HF := Lib.hid (Vf.flat_take ps k hlt)
   have HL := Lib.hid (Vf.flat_le ps (k + 1))
   clear hR hE hx hxl hcell hrd2
   go_wp2_with (at_builtin; refine wpList_app _ rfl (.tmp 12) (.tmp 16) 45 rfl w.heap.size 5 i0 (.int .u8 0) 1 1 Tryz.underlying45 HI.out HZ.out.1 HZ.out.2.1 HZ.out.2.2 rfl (by decide) bv _ _ rfl hown.out G A2 (ps[k]).length c2 (by8 ps[k]) rfl (by rw [by8_len]; omega) HRD.out (by8_one _) (by have := HL.out; rw [HF.out, List.length_append] at this; unfold maxLen; omega) (by have := HL.out; rw [HF.out, List.length_append] at this; omega) hbel.size ?_; intro v1 w1 hown1 hg1 hat1 hnil1)
   go_roundw
   case rel =>
    refine ⟨k + 1, v1, by omega, by go_num, rfl, Lib.hid ?_, hbel.grown hg1 hbel.size (fun g hg => (hown.out.lt g hg).1)⟩
    rw [HF.out, by8_append, List.length_append]
    exact hown1
   case measure => simp [intOf]; omega
  ·obtain rfl : k = ps.length := by omega
   rw [List.take_length] at hown
   go_wp2_with fail
   go_ret
   exact ⟨bv, rfl, Bs.own hown.out, hbel⟩
end
end Go.Proofs.YtljlanhpjpjgaaaGreatDoor
