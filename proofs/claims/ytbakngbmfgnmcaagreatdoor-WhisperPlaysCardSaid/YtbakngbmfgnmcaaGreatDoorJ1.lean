/- U8 Me VrPure VrRef MeApp VrRows VrDoes VrFs -/
import Derived.Below
import Derived.Test.YtbakngbmfgnmcaaGreatDoorRows
import Derived.WalkKit
import Derived.Below
import Derived.Laws.OwnMore
import Derived.Laws.Rows
import Derived.Maps.AppendAt
import Derived.Deep.AppendLies
import Derived.Deep.Draws
import Derived.OwnWalk
import Derived.Lib.Hide
import Derived.WalkSpells
import Derived.WalkLawsBesides
import Derived.Deep.QuietTactic
import Derived.BigQuiet
import Derived.Lib.QuietBelow
import Derived.Lib.Strings
import Derived.Tactics
import Derived.Laws.CopyOwn
import Derived.Deep.RegionLaw
namespace Go.Proofs.YtbakngbmfgnmcaaGreatDoor
open Go.RowKit
theorem Bs1 {B : Nat} {a w : World} (h : Below B a w) {p : Addr} (u : Value) (hp : B ≤ p.block := by first | (simp; done) | omega | (simp; omega) | (simp at *; omega)) : Below B a (w.setCell p u) := h.setCell hp u
theorem Bs2 {B : Nat} {a w : World} (h : Below B a w) (o : Obj) (hB : B ≤ w.heap.size := by first | (simp; done) | omega | (simp; omega) | (simp at *; omega)) : Below B a (w.alloc o) := h.alloc hB o
theorem Bs3 {B C : Nat} {a b c : World} (h : Below B a b) (k : Below C b c) (hB : B ≤ C := by first | (simp; done) | omega | (simp; omega) | (simp at *; omega)) : Below B a c := h.trans (k.mono hB)
theorem Bz {B n : Nat} {a b : World} (hb : Below B a b) (h : n < a.heap.size := by first | assumption | (simp; done) | (simp; omega)) : n < b.heap.size := Nat.lt_of_lt_of_le h hb.size
theorem Bq {B : Nat} {a w : World} (h : Below B a w := by repeat (first | exact Below.refl _ _ | assumption | refine Bs1 ?_ _ | refine Bs2 ?_ _ | refine Below.drew ?_ | refine Bs3 ?_ (by assumption) | (refine Below.trans ?_ (Below.mono (below_regrown _ _ _) (by first | (simp; done) | omega | (simp; omega) | (simp at *; omega)))))) : Below B a w := h
theorem Bqn {B : Nat} {a w : World} (h : Below B a w := by repeat (first | exact Below.refl _ _ | assumption | refine Bs1 ?_ _ | refine Bs2 ?_ _ | refine Below.drew ?_ | refine below_drewN ?_ _ | refine Bs3 ?_ (by assumption) | (refine Below.trans ?_ (Below.mono (below_regrown _ _ _) (by first | (simp; done) | omega | (simp; omega) | (simp at *; omega)))))) : Below B a w := h
end Go.Proofs.YtbakngbmfgnmcaaGreatDoor
namespace Go.Proofs.YtbakngbmfgnmcaaGreatDoor
set_option maxRecDepth 100000
set_option maxHeartbeats 8000000
section
open Go.RowKit
theorem u8info : (Tryz.prog.info? 5).map (fun i => (i.zero, i.size, i.bytes)) = some (some (.int .u8 0), 1, 1) := by kernel_rfl
end
section
open Go.RowKit
namespace Me
structure Kp (O : Nat → Prop) (w w' : World) : Prop where
 os : w'.os = w.os
 tape : w'.tape = w.tape
 output : w'.output = w.output
 size : w.heap.size ≤ w'.heap.size
 block : ∀ k, k < w.heap.size → ¬ O k → w'.heap[k]? = w.heap[k]?
theorem Kp.refl (O : Nat → Prop) (w : World) : Kp O w w := ⟨rfl, rfl, rfl, Nat.le_refl _, fun _ _ _ => rfl⟩
theorem Kp.trans {O O' : Nat → Prop} {a b c : World} (h : Kp O a b) (k : Kp O' b c) (hO : ∀ i, i < a.heap.size → O' i → O i) : Kp O a c :=
 ⟨k.os.trans h.os, k.tape.trans h.tape, k.output.trans h.output, Nat.le_trans h.size k.size,
  fun i hi hn => (k.block i (Nat.lt_of_lt_of_le hi h.size) (fun x => hn (hO i hi x))).trans (h.block i hi hn)⟩
theorem Kp.mono {O O' : Nat → Prop} {a b : World} (h : Kp O a b) (hO : ∀ i, i < a.heap.size → O i → O' i) : Kp O' a b :=
 ⟨h.os, h.tape, h.output, h.size, fun i hi hn => h.block i hi (fun x => hn (hO i hi x))⟩
theorem Kp.of_below {O : Nat → Prop} {a b : World} (h : Below a.heap.size a b) : Kp O a b := ⟨h.os, h.tape, h.output, h.size, fun i hi _ => h.block i hi⟩
theorem Kp.below {O : Nat → Prop} {a b : World} {B : Nat} (h : Kp O a b) (hB : B ≤ a.heap.size) (hO : ∀ i, i < B → ¬ O i) : Below B a b :=
 ⟨h.os, h.tape, h.output, h.size, fun i hi => h.block i (Nat.lt_of_lt_of_le hi hB) (hO i hi)⟩
theorem Kp.alloc {O : Nat → Prop} {a w : World} (h : Kp O a w) (o : Obj) : Kp O a (w.alloc o) :=
 ⟨h.os, h.tape, h.output, Nat.le_trans h.size (by simp), fun i hi hn => (Below.heap_alloc w o i (Nat.lt_of_lt_of_le hi h.size)).trans (h.block i hi hn)⟩
theorem Kp.drew {O : Nat → Prop} {a w : World} (h : Kp O a w) : Kp O a w.drew := ⟨h.os, h.tape, h.output, h.size, h.block⟩
theorem Kp.drewN {O : Nat → Prop} {a w : World} (h : Kp O a w) (n : Nat) : Kp O a (w.drewN n) := ⟨h.os, h.tape, h.output, h.size, h.block⟩
theorem Kp.setCell {O : Nat → Prop} {a w : World} (h : Kp O a w) (p : Addr) (hp : a.heap.size ≤ p.block ∨ O p.block) (u : Value) : Kp O a (w.setCell p u) :=
 ⟨h.os, h.tape, h.output, by simpa [World.setCell] using h.size, fun i hi hn => (Below.heap_setCell w p u i (by
  rintro rfl
  rcases hp with hp | hp
  ·omega
  ·exact hn hp)).trans (h.block i hi hn)⟩
theorem Kp.grown {O : Nat → Prop} {a w w' : World} {row : Option Nat} (h : Kp O a w) (hg : w.grownBy w' row) (hr : ∀ g, row = some g → a.heap.size ≤ g ∨ O g) : Kp O a w' :=
 ⟨hg.os.trans h.os, hg.tape.trans h.tape, hg.output.trans h.output, Nat.le_trans h.size hg.size, fun i hi hn => (hg.block i (Nat.lt_of_lt_of_le hi h.size) (by
  intro e
  rcases hr i e.symm with h1 | h1
  ·omega
  ·exact hn h1)).trans (h.block i hi hn)⟩
theorem Kp.cell {O : Nat → Prop} {a w : World} (h : Kp O a w) {p : Addr} (hp : p.block < a.heap.size) (hO : ¬ O p.block) : w.cell? p = a.cell? p := World.cell?_of_block (h.block _ hp hO)
theorem Kp.frozen {O : Nat → Prop} {a w : World} (h : Kp O a w) {p : Addr} (hp : p.block < a.heap.size) (hO : ¬ O p.block) : w.frozen? p = a.frozen? p := World.frozen?_of_block (h.block _ hp hO)
theorem block_add (a : Addr) (n : Nat) : (a.add n).block = a.block := by unfold Addr.add; split <;> rfl
theorem add_add (a : Addr) (i j : Nat) : (a.add i).add j = a.add (i + j) := by
 unfold Addr.add
 by_cases hi : i = 0 <;> by_cases hj : j = 0 <;> simp [hi, hj, Nat.add_assoc]
def Rd (w : World) (G : Nat → Prop) (A : Option Addr) (xs : List Value) : Prop :=
 xs ≠ [] → ∃ ad, A = some ad ∧ ad.block < w.heap.size ∧ G ad.block ∧ ∀ j u, xs[j]? = some u → w.cell? (ad.add j) = some u
theorem Rd.none_ (w : World) (G : Nat → Prop) (A : Option Addr) : Rd w G A [] := fun h => absurd rfl h
theorem Rd.keep {w w' : World} {G : Nat → Prop} {A : Option Addr} {xs : List Value} (h : Rd w G A xs) (hs : w.heap.size ≤ w'.heap.size) (hk : ∀ i, i < w.heap.size → G i → w'.heap[i]? = w.heap[i]?) : Rd w' G A xs := fun hn => by
 obtain ⟨ad, e, hl, hg, hc⟩ := h hn
 refine ⟨ad, e, Nat.lt_of_lt_of_le hl hs, hg, fun j u hu => ?_⟩
 exact (World.cell?_of_block (w := w) (w' := w') (a := ad.add j) (by rw [block_add]; exact hk _ hl hg)).trans (hc j u hu)
theorem Rd.mono {w : World} {G G' : Nat → Prop} {A : Option Addr} {xs : List Value} (h : Rd w G A xs) (hG : ∀ i, i < w.heap.size → G i → G' i) : Rd w G' A xs := fun hn => by
 obtain ⟨ad, e, hl, hg, hc⟩ := h hn
 exact ⟨ad, e, hl, hG _ hl hg, hc⟩
theorem Rd.kp {w w' : World} {G O : Nat → Prop} {A : Option Addr} {xs : List Value} (h : Rd w G A xs) (k : Kp O w w') (hd : ∀ i, i < w.heap.size → G i → ¬ O i) : Rd w' G A xs :=
 h.keep k.size fun i hi hg => k.block i hi (hd i hi hg)
theorem Rd.below {w w' : World} {G : Nat → Prop} {A : Option Addr} {xs : List Value} (h : Rd w G A xs) (b : Below w.heap.size w w') : Rd w' G A xs :=
 h.keep b.size fun i hi _ => b.block i hi
theorem Rd.at_ {w : World} {G : Nat → Prop} {A : Option Addr} {xs : List Value} (h : Rd w G A xs) (k : Nat) (hk : k < xs.length) : ∃ ad, A = some ad ∧ ad.block < w.heap.size ∧ G ad.block ∧ ∀ j u, xs[j]? = some u → w.cell? (ad.add j) = some u :=
 h (by intro e; rw [e] at hk; cases hk)
theorem Rd.lit {w : World} {G : Nat → Prop} {A : Option Addr} {xs : List Value} (h : Rd w G A xs) (k : Nat) (hk : k < xs.length) : ∃ b o, A = some ⟨b, o, none⟩ ∧ b < w.heap.size ∧ G b ∧ ∀ j u, xs[j]? = some u → w.cell? ⟨b, o + j, none⟩ = some u := by
 obtain ⟨⟨b, o, s⟩, e, hl, hg, hc⟩ := h.at_ k hk
 have h0 := hc 0 _ (List.getElem?_eq_getElem (by omega : 0 < xs.length))
 have hs : s = none := by
  cases s with
  | none => rfl
  | some s =>
    exfalso
    have e0 : (⟨b, o, some s⟩ : Addr).add 0 = ⟨b, o, some s⟩ := by unfold Addr.add; simp
    rw [e0] at h0
    unfold World.cell? at h0
    split at h0 <;> simp at h0
 subst hs
 exact ⟨b, o, e, hl, hg, fun j u hu => by have := hc j u hu; rwa [Addr.add_lit] at this⟩
theorem Rd.sub {w : World} {G : Nat → Prop} {ad : Addr} {xs : List Value} (h : Rd w G (some ad) xs) (lo n : Nat) : Rd w G (some (ad.add lo)) ((xs.drop lo).take n) := fun hn => by
 have hx : xs ≠ [] := by rintro rfl; exact hn (by simp)
 obtain ⟨ad', e, hl, hg, hc⟩ := h hx
 obtain rfl := Option.some.inj e
 refine ⟨_, rfl, by rw [block_add]; exact hl, by rw [block_add]; exact hg, fun j u hu => ?_⟩
 rw [add_add]
 rw [List.getElem?_take] at hu
 split at hu
 ·rw [List.getElem?_drop] at hu
  exact hc _ u hu
 ·cases hu
theorem Rd.own {w : World} {base : Nat} {e : TypeId} {size n c : Nat} {A : Option Addr} {xs : List Value} (h : w.ownsRow base e size (.slice A n c) n xs) : Rd w (fun i => (Value.slice A n c).ownBlock = some i) A xs := fun hn => by
 rcases h.2 with ⟨hv, h0⟩ | ⟨g, cap, cur, hv, hb, hg, hnc, hcm, hcs, ht⟩
 ·have hz : xs = [] := List.eq_nil_of_length_eq_zero (by rw [h.1, h0]; simp)
  exact absurd hz hn
 ·injection hv with hv
  subst hv
  refine ⟨_, rfl, (Array.getElem?_eq_some_iff.1 hg).1, rfl, fun j u hu => ?_⟩
  have e1 : (⟨g, 0, none⟩ : Addr).add j = ⟨g, j, none⟩ := by unfold Addr.add; by_cases h0 : j = 0 <;> simp [h0]
  rw [e1, cell_of_row w g j cur e (0, 0) hg]
  rw [← ht] at hu
  rw [List.getElem?_take] at hu
  split at hu
  ·simpa using hu
  ·cases hu
def Els {α : Type} (E : α → List Value → Prop) : List α → List Value → Prop
 | [], xs => xs = []
 | a :: r, xs => ∃ cs rest, xs = cs ++ rest ∧ E a cs ∧ Els E r rest
theorem Els.mono {α : Type} {E E' : α → List Value → Prop} (h : ∀ a cs, E a cs → E' a cs) : ∀ {l : List α} {xs : List Value}, Els E l xs → Els E' l xs
 | [], _, hx => hx
 | _ :: _, _, ⟨cs, rest, e, ha, hr⟩ => ⟨cs, rest, e, h _ _ ha, hr.mono h⟩
theorem Els.append {α : Type} {E : α → List Value → Prop} : ∀ {l m : List α} {xs ys : List Value}, Els E l xs → Els E m ys → Els E (l ++ m) (xs ++ ys)
 | [], _, _, _, hx, hm => by subst hx; exact hm
 | _ :: _, _, _, _, ⟨cs, rest, e, ha, hr⟩, hm => ⟨cs, rest ++ _, by rw [e, List.append_assoc], ha, hr.append hm⟩
theorem Els.one {α : Type} {E : α → List Value → Prop} {a : α} {cs : List Value} (h : E a cs) : Els E [a] cs := ⟨cs, [], by simp, h, rfl⟩
theorem Els.length {α : Type} {E : α → List Value → Prop} {s : Nat} (hs : ∀ a cs, E a cs → cs.length = s) : ∀ {l : List α} {xs : List Value}, Els E l xs → xs.length = l.length * s
 | [], _, hx => by subst hx; simp
 | _ :: _, _, ⟨cs, rest, e, ha, hr⟩ => by rw [e, List.length_append, hs _ _ ha, hr.length hs, List.length_cons, Nat.add_mul]; omega
theorem Els.get {α : Type} {E : α → List Value → Prop} {s : Nat} (hs : ∀ a cs, E a cs → cs.length = s) : ∀ {l : List α} {xs : List Value} (_ : Els E l xs) (i : Nat) (hi : i < l.length), ∃ cs, E l[i] cs ∧ ∀ j, j < s → xs[i * s + j]? = cs[j]?
 | a :: r, _, ⟨cs, rest, e, ha, hr⟩, 0, _ => ⟨cs, ha, fun j hj => by rw [e, Nat.zero_mul, Nat.zero_add, List.getElem?_append_left (by rw [hs _ _ ha]; exact hj)]⟩
 | a :: r, _, ⟨cs, rest, e, ha, hr⟩, i + 1, hi => by
   obtain ⟨cs', h1, h2⟩ := hr.get hs i (by simpa using hi)
   refine ⟨cs', h1, fun j hj => ?_⟩
   have hl : (i + 1) * s + j = cs.length + (i * s + j) := by rw [hs _ _ ha, Nat.add_mul]; omega
   rw [e, hl, List.getElem?_append_right (by omega), Nat.add_sub_cancel_left]
   exact h2 j hj
def by8 (l : List UInt8) : List Value := l.map fun c => .int .u8 (c.toNat : Int)
theorem by8_len (l : List UInt8) : (by8 l).length = l.length := by unfold by8; simp
theorem by8_append (a b : List UInt8) : by8 (a ++ b) = by8 a ++ by8 b := by unfold by8; simp
theorem by8_get (l : List UInt8) (j : Nat) (h : j < l.length) : (by8 l)[j]? = some (.int .u8 (l[j].toNat : Int)) := by unfold by8; simp [h]
theorem by8_one (l : List UInt8) : ∀ u ∈ by8 l, u.oneCell' = true := by
 intro u hu
 unfold by8 at hu
 obtain ⟨c, _, rfl⟩ := List.mem_map.1 hu
 rfl
def Bs (w : World) (G : Nat → Prop) (v : Value) (l : List UInt8) : Prop := ∃ A c, v = .slice A l.length c ∧ l.length ≤ c ∧ c ≤ maxLen ∧ Rd w G A (by8 l)
theorem Bs.keep {w w' : World} {G : Nat → Prop} {v : Value} {l : List UInt8} (h : Bs w G v l) (hs : w.heap.size ≤ w'.heap.size) (hk : ∀ i, i < w.heap.size → G i → w'.heap[i]? = w.heap[i]?) : Bs w' G v l := by
 obtain ⟨A, c, e, h1, h2, h3⟩ := h
 exact ⟨A, c, e, h1, h2, h3.keep hs hk⟩
theorem Bs.mono {w : World} {G G' : Nat → Prop} {v : Value} {l : List UInt8} (h : Bs w G v l) (hG : ∀ i, i < w.heap.size → G i → G' i) : Bs w G' v l := by
 obtain ⟨A, c, e, h1, h2, h3⟩ := h
 exact ⟨A, c, e, h1, h2, h3.mono hG⟩
theorem Bs.below {w w' : World} {G : Nat → Prop} {v : Value} {l : List UInt8} (h : Bs w G v l) (b : Below w.heap.size w w') : Bs w' G v l := h.keep b.size fun i hi _ => b.block i hi
end Me
end
section
namespace Vf
structure Fl where
 name : List UInt8
 b : List UInt8
structure Ac where
 kind : Int
 name : List UInt8
 off : Nat
 p : List UInt8
def ixFrom (n : List UInt8) : Nat → List Fl → Int
 | _, [] => -1
 | k, f :: r => if f.name == n then (k : Int) else ixFrom n (k + 1) r
def ix (l : List Fl) (n : List UInt8) : Int := ixFrom n 0 l
theorem ixFrom_skip (n : List UInt8) : ∀ (l : List Fl) (k j : Nat), j ≤ l.length → (∀ i (h : i < l.length), i < j → (l[i].name == n) = false) → ixFrom n k l = ixFrom n (k + j) (l.drop j)
 | _, _, 0, _, _ => rfl
 | [], k, j + 1, h, _ => by simp at h
 | f :: r, k, j + 1, h, hn => by
   have h0 := hn 0 (by simp) (by omega)
   simp only [List.getElem_cons_zero] at h0
   rw [ixFrom, h0]
   simp only [Bool.false_eq_true, if_false]
   rw [ixFrom_skip n r (k + 1) j (by simpa using h) (fun i hi hj => by have := hn (i + 1) (by simpa using hi) (by omega); simpa using this), List.drop_succ_cons]
   congr 1
   omega
theorem ix_hit {l : List Fl} {n : List UInt8} {k : Nat} (hk : k < l.length) (hn : ∀ i (h : i < l.length), i < k → (l[i].name == n) = false) (h : (l[k].name == n) = true) : ix l n = k := by
 unfold ix
 rw [ixFrom_skip n l 0 k (by omega) hn, List.drop_eq_getElem_cons hk, ixFrom, h]
 simp
theorem ix_miss {l : List Fl} {n : List UInt8} (hn : ∀ i (h : i < l.length), i < l.length → (l[i].name == n) = false) : ix l n = -1 := by
 unfold ix
 rw [ixFrom_skip n l 0 l.length (Nat.le_refl _) hn, List.drop_length]
 rfl
theorem ixFrom_bd (n : List UInt8) : ∀ (l : List Fl) (k : Nat), ixFrom n k l = -1 ∨ ((k : Int) ≤ ixFrom n k l ∧ ixFrom n k l < (k : Int) + l.length)
 | [], _ => .inl rfl
 | f :: r, k => by
   rw [ixFrom]
   split
   ·right; simp; omega
   ·rcases ixFrom_bd n r (k + 1) with h | h
    ·exact .inl h
    ·right; simp at h ⊢; omega
theorem ix_bd (l : List Fl) (n : List UInt8) : -1 ≤ ix l n ∧ ix l n < l.length := by
 unfold ix
 rcases ixFrom_bd n l 0 with h | h
 ·omega
 ·simp at h; omega
def upd (b : List UInt8) (off : Nat) (p : List UInt8) : List UInt8 := b.take off ++ p ++ b.drop (off + p.length)
theorem upd_len {b : List UInt8} {off : Nat} {p : List UInt8} (h : off + p.length ≤ b.length) : (upd b off p).length = b.length := by
 unfold upd
 simp
 omega
def one (a : Ac) (i : Int) (k : Nat) (x : Fl) : List Fl :=
 if (k : Int) = i ∧ a.kind = 2 then [⟨x.name, upd x.b a.off a.p⟩] else if (k : Int) = i ∧ a.kind = 3 then [] else [x]
def goes (a : Ac) (i : Int) : Nat → List Fl → List Fl
 | _, [] => []
 | k, x :: r => one a i k x ++ goes a i (k + 1) r
def does (l : List Fl) (a : Ac) : List Fl := goes a (ix l a.name) 0 l ++ if a.kind = 1 then [⟨a.name, a.p⟩] else []
theorem goes_append (a : Ac) (i : Int) : ∀ (l m : List Fl) (k : Nat), goes a i k (l ++ m) = goes a i k l ++ goes a i (k + l.length) m
 | [], _, _ => rfl
 | x :: r, m, k => by
   rw [List.cons_append, goes, goes, goes_append a i r m (k + 1), List.append_assoc, List.length_cons]
   congr 3
   omega
theorem goes_take (a : Ac) (i : Int) (l : List Fl) (k : Nat) (h : k < l.length) : goes a i 0 (l.take (k + 1)) = goes a i 0 (l.take k) ++ one a i k l[k] := by
 rw [List.take_succ_eq_append_getElem h, goes_append]
 congr 1
 rw [List.length_take, Nat.zero_add, Nat.min_eq_left (by omega)]
 simp [goes]
theorem one_len (a : Ac) (i : Int) (k : Nat) (x : Fl) : (one a i k x).length ≤ 1 := by
 unfold one
 split
 ·simp
 ·split <;> simp
theorem goes_len (a : Ac) (i : Int) : ∀ (l : List Fl) (k : Nat), (goes a i k l).length ≤ l.length
 | [], _ => by simp [goes]
 | x :: r, k => by
   have h1 := one_len a i k x
   have h2 := goes_len a i r (k + 1)
   rw [goes, List.length_append, List.length_cons]
   omega
theorem does_len (l : List Fl) (a : Ac) : (does l a).length ≤ l.length + 1 := by
 have h := goes_len a (ix l a.name) l 0
 unfold does
 rw [List.length_append]
 split
 ·simp; omega
 ·simp; omega
end Vf
end
section
open Go.RowKit
open Me
theorem ret_i64 {a b : Int} (h : a = b) : Ending.returned (.int .i64 a) = .returned (.int .i64 b) := by rw [h]
theorem ret_bool {a b : Bool} (h : a = b) : Ending.returned (.bool a) = .returned (.bool b) := by rw [h]
namespace Vf
def FlC (w : World) (G : Nat → Prop) (f : Fl) (cs : List Value) : Prop := ∃ v, cs = [.string ⟨f.name.toArray⟩, v] ∧ Bs w G v f.b
theorem FlC.two {w : World} {G : Nat → Prop} : ∀ f cs, FlC w G f cs → cs.length = 2 := by
 rintro f cs ⟨v, rfl, _⟩; rfl
def Fs (w : World) (G : Nat → Prop) (v : Value) (l : List Fl) : Prop := ∃ A c xs, v = .slice A l.length c ∧ l.length ≤ c ∧ c ≤ maxLen ∧ Rd w G A xs ∧ Els (FlC w G) l xs
def is (n : List UInt8) : Bool := decide (1 ≤ n.length ∧ n.length ≤ 255)
end Vf
theorem is_any (n : List UInt8) (w : World) :
 Calls Tryz.prog 53 #[.string ⟨n.toArray⟩] w fun e w' => e = .returned (.bool (Vf.is n)) ∧ w = w' := by
 by_cases h1 : (1 : Int) ≤ (n.length : Int)
 ·by_cases h2 : (n.length : Int) ≤ 255
  ·have H : Hid (Vf.is n = true) := Lib.hid (by unfold Vf.is; simp; omega)
   go_enter Tryz.func53, Tryz.ntmps53
   go_wp2
   go_ret
   exact ⟨ret_bool (by rw [H.out]), rfl⟩
  ·have H : Hid (Vf.is n = false) := Lib.hid (by unfold Vf.is; simp; omega)
   go_enter Tryz.func53, Tryz.ntmps53
   go_wp2
   go_ret
   exact ⟨ret_bool (by rw [H.out]), rfl⟩
 ·have H : Hid (Vf.is n = false) := Lib.hid (by unfold Vf.is; simp; omega)
  go_enter Tryz.func53, Tryz.ntmps53
  go_wp2
  go_ret
  exact ⟨ret_bool (by rw [H.out]), rfl⟩
theorem find_any (l : List Vf.Fl) (n : List UInt8) (v : Value) (G : Nat → Prop) (w : World) (hf : Vf.Fs w G v l) (hl : l.length ≤ 1048576) :
 Calls Tryz.prog 54 #[v, .string ⟨n.toArray⟩] w fun e w' => e = .returned (.int .i64 (Vf.ix l n)) ∧ w = w' := by
 obtain ⟨A, c, xs, rfl, hc, hcm, hrd, hels⟩ := hf
 unfold maxLen at hcm
 have hl' : (l.length : Int) ≤ 1048576 := by omega
 have HE := Lib.hid hels
 have HR := Lib.hid hrd
 clear hels hrd
 go_enter Tryz.func54, Tryz.ntmps54
 go_wp2_with fail
 go_loop [5] (fun i => ∃ k : Nat, k ≤ l.length ∧ i = .int .i64 k ∧ Hid (∀ i (h : i < l.length), i < k → (l[i].name == n) = false)) (fun i => l.length - (intOf i).toNat)
 case atStart => exact ⟨0, Nat.zero_le _, rfl, Lib.hid (fun i _ h => absurd h (by omega))⟩
 case round =>
  obtain ⟨k, hk, rfl, hn⟩ := hrel
  by_cases hlt : k < l.length
  ·obtain ⟨cs, ⟨v, rfl, hbs⟩, hx⟩ := HE.out.get Vf.FlC.two k hlt
   have hxl := HE.out.length Vf.FlC.two
   obtain ⟨ad, rfl, hlt2, hg, hcell⟩ := HR.out.at_ (k * 2) (by omega)
   have hcl : w.cell? (ad.add (k * 2)) = some (.string ⟨(l[k].name).toArray⟩) := hcell _ _ (hx 0 (by omega))
   clear hx hxl hcell hbs
   cases hb : (l[k].name == n)
   ·have HB : Hid ((l[k].name == n) = false) := Lib.hid hb
    go_wp2_with fail
    go_round
    case rel =>
     refine ⟨k + 1, by omega, by go_num, Lib.hid (fun i hi hik => ?_)⟩
     by_cases e : i = k
     ·subst e; exact HB.out
     ·exact hn.out i hi (by omega)
    case measure => simp [intOf]; omega
   ·have HB : Hid ((l[k].name == n) = true) := Lib.hid hb
    go_wp2_with fail
    go_ret
    exact ⟨ret_i64 (Vf.ix_hit hlt hn.out HB.out).symm, rfl⟩
  ·obtain rfl : k = l.length := by omega
   go_wp2_with fail
   go_ret
   exact ⟨ret_i64 (Vf.ix_miss hn.out).symm, rfl⟩
end
section
open Go.RowKit
namespace Me
section
variable {P : Program} (w : World)
theorem run_app (base : Nat) (t ty e : TypeId) (i : TypeInfo) (z : Value) (size bytes : Nat) (ht : P.underlying t = some (.slice e)) (hi : P.info? e = some i) (hz : i.zero = some z)
 (hsize : i.size = size) (hby : i.bytes = bytes) (hzs : z.cells.size = size) (hsz : 0 < size)
 (v : Value) (n : Nat) (xs : List Value) (hown : w.ownsRow base e size v n xs)
 (G : Nat → Prop) (A : Option Addr) (m c : Nat) (news : List Value) (hl : news.length = m * size) (hr : Rd w G A news) (h1 : ∀ u ∈ news, u.oneCell' = true)
 (h63 : n + m ≤ maxLen) (hbytes : (n + m) * bytes ≤ 140737488355328) (hbase : base ≤ w.heap.size) :
 ∃ v' w', (Builtin.append_ #[t, t] ty #[v, .slice A m c]).run P w = .ok v' w' ∧ w'.ownsRow base e size v' (n + m) (xs ++ news) ∧ w.grownBy w' v.ownBlock ∧
  (v'.ownBlock = v.ownBlock ∨ v'.ownBlock = some w.heap.size) ∧ (v' = .slice none 0 0 → v = .slice none 0 0) := by
 by_cases hn : news = []
 ·subst hn
  have hm : m = 0 := by
   rcases Nat.eq_zero_or_pos m with h | h
   ·exact h
   ·have := Nat.mul_pos h hsz; simp at hl; omega
  subst hm
  cases A with
  | none =>
    refine ⟨v, w, ?_, by simpa using hown, World.grownBy.refl w _, .inl rfl, id⟩
    rcases hown.2 with ⟨rfl, rfl⟩ | ⟨g, cap, cur, rfl, _, _, hnc, _⟩
    ·simp [Builtin.append_, run_underlying ht, sizeOf, typeInfo, hi, Builtin.lenOf, Builtin.firstCells]
    ·simp [Builtin.append_, run_underlying ht, sizeOf, typeInfo, hi, Builtin.lenOf, Builtin.firstCells, hnc, storeCells]
  | some ad =>
    obtain ⟨v', w', hrun, h2, h3, h4, h5⟩ := run_append_own_at (P := P) w base t ty e i z size bytes ht hi hz hsize hby hzs hsz v n xs hown ad 0 c [] (by simp) (fun j u hu => by simp at hu) (fun u hu => by cases hu) (by omega) (by simpa using hbytes) hbase
    exact ⟨v', w', hrun, h2, h3, h5, fun e => (h4.1 e).1⟩
 ·obtain ⟨ad, rfl, _, _, hc⟩ := hr hn
  obtain ⟨v', w', hrun, h2, h3, h4, h5⟩ := run_append_own_at (P := P) w base t ty e i z size bytes ht hi hz hsize hby hzs hsz v n xs hown ad m c news hl hc h1 h63 hbytes hbase
  exact ⟨v', w', hrun, h2, h3, h5, fun e => (h4.1 e).1⟩
theorem wp_app {o : Oper} {a : Act} {K : Act → World → Prop} {Q : Exit → Act → World → Prop} (s x : Operand) (t : TypeId)
 (ho : o.op = .call { callee := .builtin .append, args := #[s, x], argTypes := #[t, t] })
 (base : Nat) (e : TypeId) (i : TypeInfo) (z : Value) (size bytes : Nat) (ht : P.underlying t = some (.slice e)) (hi : P.info? e = some i) (hz : i.zero = some z)
 (hsize : i.size = size) (hby : i.bytes = bytes) (hzs : z.cells.size = size) (hsz : 0 < size)
 (v : Value) (n : Nat) (xs : List Value) (hs : a.eval s = v) (hown : w.ownsRow base e size v n xs)
 (G : Nat → Prop) (A : Option Addr) (m c : Nat) (news : List Value) (hx : a.eval x = .slice A m c) (hl : news.length = m * size) (hr : Rd w G A news) (h1 : ∀ u ∈ news, u.oneCell' = true)
 (h63 : n + m ≤ maxLen) (hbytes : (n + m) * bytes ≤ 140737488355328) (hbase : base ≤ w.heap.size)
 (h : ∀ v' w', w'.ownsRow base e size v' (n + m) (xs ++ news) → w.grownBy w' v.ownBlock → (v'.ownBlock = v.ownBlock ∨ v'.ownBlock = some w.heap.size) → (v' = .slice none 0 0 → v = .slice none 0 0) → K (a.put o.dst v') w') : o.wp P a w K Q := by
 obtain ⟨v', w', hrun, h2, h3, h4, h5⟩ := run_app (P := P) w base t o.type e i z size bytes ht hi hz hsize hby hzs hsz v n xs hown G A m c news hl hr h1 h63 hbytes hbase
 unfold Oper.wp execOp
 simp only [ho, resolve, invoke, builtin, Sem.run_bind, Sem.run_pure, Result.andThen_ok, List.map_toArray, List.map_cons, List.map_nil, hs, hx, hrun]
 exact h v' w' h2 h3 h4 h5
theorem wpList_app {ops : Array Oper} {rest : List Oper} {o : Oper} {a : Act} {Q : Exit → Act → World → Prop} (hgd : o.guard = none) (s x : Operand) (t : TypeId)
 (ho : o.op = .call { callee := .builtin .append, args := #[s, x], argTypes := #[t, t] })
 (base : Nat) (e : TypeId) (i : TypeInfo) (z : Value) (size bytes : Nat) (ht : P.underlying t = some (.slice e)) (hi : P.info? e = some i) (hz : i.zero = some z)
 (hsize : i.size = size) (hby : i.bytes = bytes) (hzs : z.cells.size = size) (hsz : 0 < size)
 (v : Value) (n : Nat) (xs : List Value) (hs : a.eval s = v) (hown : w.ownsRow base e size v n xs)
 (G : Nat → Prop) (A : Option Addr) (m c : Nat) (news : List Value) (hx : a.eval x = .slice A m c) (hl : news.length = m * size) (hr : Rd w G A news) (h1 : ∀ u ∈ news, u.oneCell' = true)
 (h63 : n + m ≤ maxLen) (hbytes : (n + m) * bytes ≤ 140737488355328) (hbase : base ≤ w.heap.size)
 (h : ∀ v' w', w'.ownsRow base e size v' (n + m) (xs ++ news) → w.grownBy w' v.ownBlock → (v'.ownBlock = v.ownBlock ∨ v'.ownBlock = some w.heap.size) → (v' = .slice none 0 0 → v = .slice none 0 0) → wpList P ops Q rest (a.put o.dst v') w') : wpList P ops Q (o :: rest) a w :=
 wpList_plain hgd fun _ hK => wp_app w s x t ho base e i z size bytes ht hi hz hsize hby hzs hsz v n xs hs hown G A m c news hx hl hr h1 h63 hbytes hbase fun v' w' h2 h3 h4 h5 => hK _ _ (h v' w' h2 h3 h4 h5)
theorem step_app {ops : Array Oper} {o : Oper} {a : Act} {K : Act → World → Prop} {Q : Exit → Act → World → Prop} {E : Prop} (hgd : o.guard = none) (s x : Operand) (t : TypeId)
 (ho : o.op = .call { callee := .builtin .append, args := #[s, x], argTypes := #[t, t] })
 (base : Nat) (e : TypeId) (i : TypeInfo) (z : Value) (size bytes : Nat) (ht : P.underlying t = some (.slice e)) (hi : P.info? e = some i) (hz : i.zero = some z)
 (hsize : i.size = size) (hby : i.bytes = bytes) (hzs : z.cells.size = size) (hsz : 0 < size)
 (v : Value) (n : Nat) (xs : List Value) (hs : a.eval s = v) (hown : w.ownsRow base e size v n xs)
 (G : Nat → Prop) (A : Option Addr) (m c : Nat) (news : List Value) (hx : a.eval x = .slice A m c) (hl : news.length = m * size) (hr : Rd w G A news) (h1 : ∀ u ∈ news, u.oneCell' = true)
 (h63 : n + m ≤ maxLen) (hbytes : (n + m) * bytes ≤ 140737488355328) (hbase : base ≤ w.heap.size)
 (h : ∀ v' w', w'.ownsRow base e size v' (n + m) (xs ++ news) → w.grownBy w' v.ownBlock → (v'.ownBlock = v.ownBlock ∨ v'.ownBlock = some w.heap.size) → (v' = .slice none 0 0 → v = .slice none 0 0) → K (a.put o.dst v') w') :
 if Region.wanted o (yielded ops a.tmps) = true then Oper.wp P o a w K Q else E := by
 have hw : Region.wanted o (yielded ops a.tmps) = true := by simp [Region.wanted, hgd]
 rw [if_pos hw]
 exact wp_app w s x t ho base e i z size bytes ht hi hz hsize hby hzs hsz v n xs hs hown G A m c news hx hl hr h1 h63 hbytes hbase h
end
theorem owns_keep {w w' : World} {base : Nat} {e : TypeId} {size n : Nat} {v : Value} {xs : List Value} (h : w.ownsRow base e size v n xs) (hk : ∀ g, v.ownBlock = some g → w'.heap[g]? = w.heap[g]?) : w'.ownsRow base e size v n xs := by
 refine ⟨h.1, ?_⟩
 rcases h.2 with hn | ⟨g, cap, cur, rfl, hb, hg, rest⟩
 ·exact .inl hn
 ·exact .inr ⟨g, cap, cur, rfl, hb, (hk g rfl).trans hg, rest⟩
theorem Rd.fresh (W : World) (cs : List Value) (t : TypeId) (n : Nat) (hn : n = W.heap.size) : Rd (W.alloc (.cells cs.toArray t)) (fun b => b = n) (some ⟨n, 0, none⟩) cs := fun _ => by
 subst hn
 refine ⟨_, rfl, by simp, rfl, fun j u hu => ?_⟩
 rw [Addr.add_lit, Nat.zero_add, World.cell?_alloc_new]
 simpa using hu
theorem Bs.own {w : World} {base : Nat} {e : TypeId} {v : Value} {l : List UInt8} (h : w.ownsRow base e 1 v l.length (by8 l)) : Bs w (fun i => base ≤ i) v l := by
 rcases h.2 with ⟨hv, h0⟩ | ⟨g, cap, cur, hv, hb, hg, hnc, hcm, hcs, ht⟩
 ·have hz : l = [] := List.eq_nil_of_length_eq_zero h0
  subst hz
  exact ⟨none, 0, hv, Nat.le_refl _, Nat.zero_le _, Rd.none_ _ _ _⟩
 ·refine ⟨some ⟨g, 0, none⟩, cap, hv, hnc, hcm, ?_⟩
  rw [hv] at h
  refine (Rd.own h).mono fun i _ hi => ?_
  have : g = i := by simpa [Value.ownBlock] using hi
  omega
end Me
theorem own_slice {base : Nat} {w : World} {v : Value} {e : TypeId} {s n : Nat} {xs : List Value} (h : w.ownsRow base e s v n xs) : ∃ A n c, v = .slice A n c := by
 rcases h.2 with ⟨rfl, _⟩ | ⟨g', cap, cur, rfl, _⟩
 ·exact ⟨_, _, _, rfl⟩
 ·exact ⟨_, _, _, rfl⟩
theorem lowBox' {w W : World} {o : Obj} (h : Below (w.heap.size + 1) (w.alloc o) W) : Below w.heap.size w W := ((Below.refl _ _).alloc (Nat.le_refl _) _).trans (h.mono (Nat.le_succ _))
end
section
open Go.RowKit
open Me
namespace Vf
def BsC (w : World) (G : Nat → Prop) (b : List UInt8) (cs : List Value) : Prop := ∃ v, cs = [v] ∧ Bs w G v b
theorem BsC.one {w : World} {G : Nat → Prop} : ∀ b cs, BsC w G b cs → cs.length = 1 := by
 rintro b cs ⟨v, rfl, _⟩; rfl
def Ps (w : World) (G : Nat → Prop) (v : Value) (l : List (List UInt8)) : Prop := ∃ A c xs, v = .slice A l.length c ∧ l.length ≤ c ∧ c ≤ maxLen ∧ Rd w G A xs ∧ Els (BsC w G) l xs
theorem BsC.keep {w w' : World} {G : Nat → Prop} (hs : w.heap.size ≤ w'.heap.size) (hk : ∀ i, i < w.heap.size → G i → w'.heap[i]? = w.heap[i]?) (b : List UInt8) (cs : List Value) (h : BsC w G b cs) : BsC w' G b cs := by
 obtain ⟨v, e, hb⟩ := h
 exact ⟨v, e, hb.keep hs hk⟩
theorem Ps.keep {w w' : World} {G : Nat → Prop} {v : Value} {l : List (List UInt8)} (h : Ps w G v l) (hs : w.heap.size ≤ w'.heap.size) (hk : ∀ i, i < w.heap.size → G i → w'.heap[i]? = w.heap[i]?) : Ps w' G v l := by
 obtain ⟨A, c, xs, e, h1, h2, h3, h4⟩ := h
 exact ⟨A, c, xs, e, h1, h2, h3.keep hs hk, h4.mono fun b cs hb => hb.keep hs hk⟩
theorem flat_take (l : List (List UInt8)) (k : Nat) (h : k < l.length) : (l.take (k + 1)).flatten = (l.take k).flatten ++ l[k] := by
 rw [List.take_succ_eq_append_getElem h, List.flatten_append]
 simp
theorem flat_le (l : List (List UInt8)) (k : Nat) : (l.take k).flatten.length ≤ l.flatten.length := by
 conv => rhs; rw [← List.take_append_drop k l]
 rw [List.flatten_append, List.length_append]
 omega
def Made (w : World) (l : List UInt8) (e : Ending) (w' : World) : Prop := ∃ v, e = .returned v ∧ Bs w' (fun i => w.heap.size ≤ i) v l ∧ Below w.heap.size w w'
end Vf
theorem rows_any (ps : List (List UInt8)) (v : Value) (G : Nat → Prop) (w : World) (hp : Vf.Ps w G v ps) (hl : ps.length ≤ 1048576) (ht : ps.flatten.length ≤ 4294967296) :
 Calls Tryz.prog 52 #[v] w (Vf.Made w ps.flatten) := by
 obtain ⟨i0, hi0, hz0, hz1, hz2⟩ := info_parts u8info
 have HI := Lib.hid hi0
 have HZ := Lib.hid (And.intro hz0 (And.intro hz1 hz2))
 clear hi0 hz0 hz1 hz2
 obtain ⟨A, c, xs, rfl, hc, hcm, hrd, hels⟩ := hp
 unfold maxLen at hcm
 have HR := Lib.hid hrd
 have HE := Lib.hid hels
 have hl' : (ps.length : Int) ≤ 1048576 := by omega
 clear hrd hels
 go_enter Tryz.func52, Tryz.ntmps52
 go_wp2_with fail
 go_loopw [3, 4] (fun b i wr => ∃ (k : Nat) (bv : Value), k ≤ ps.length ∧ i = .int .i64 k ∧ bv = b ∧ Hid (wr.ownsRow w.heap.size 5 1 bv (ps.take k).flatten.length (by8 (ps.take k).flatten)) ∧ Below w.heap.size w wr) (fun _ i _ => ps.length - (intOf i).toNat)
 case atStart =>
  exact ⟨0, _, Nat.zero_le _, rfl, rfl, Lib.hid ⟨by simp [by8], .inr ⟨w.heap.size, 0, #[], rfl, Nat.le_refl _, heap_alloc_new w _, Nat.le_refl _, Nat.zero_le _, rfl, by simp [by8]⟩⟩, (Below.refl _ _).alloc (Nat.le_refl _) _⟩
 case round =>
  obtain ⟨k, bv, hk, rfl, rfl, hown, hbel⟩ := hrel
  by_cases hlt : k < ps.length
  ·have hR := HR.out.below hbel
   have hE : Els (Vf.BsC wr G) ps xs := HE.out.mono fun b cs hb => hb.keep hbel.size (fun i hi _ => hbel.block i hi)
   obtain ⟨cs, ⟨v, rfl, hbs⟩, hx⟩ := hE.get Vf.BsC.one k hlt
   have hxl := hE.length Vf.BsC.one
   obtain ⟨ad, rfl, hlt2, hg, hcell⟩ := hR.at_ (k * 1) (by omega)
   have hcl : wr.cell? (ad.add k) = some v := by have := hcell _ _ (hx 0 (by omega)); simpa using this
   obtain ⟨A2, c2, rfl, hc2, hcm2, hrd2⟩ := hbs
   have HRD := Lib.hid hrd2
   have HF := Lib.hid (Vf.flat_take ps k hlt)
   have HL := Lib.hid (Vf.flat_le ps (k + 1))
   clear hR hE hx hxl hcell hrd2
   go_wp2_with (at_builtin; refine wpList_app _ rfl (.tmp 12) (.tmp 16) 49 rfl w.heap.size 5 i0 (.int .u8 0) 1 1 Tryz.underlying49 HI.out HZ.out.1 HZ.out.2.1 HZ.out.2.2 rfl (by decide) bv _ _ rfl hown.out G A2 (ps[k]).length c2 (by8 ps[k]) rfl (by rw [by8_len]; omega) HRD.out (by8_one _) (by have := HL.out; rw [HF.out, List.length_append] at this; unfold maxLen; omega) (by have := HL.out; rw [HF.out, List.length_append] at this; omega) hbel.size ?_; intro v1 w1 hown1 hg1 hat1 hnil1)
   go_roundw
   case rel =>
    refine ⟨k + 1, v1, by omega, by go_num, rfl, Lib.hid ?_, hbel.grown hg1 hbel.size (fun g hg => (hown.out.lt g hg).1)⟩
    rw [HF.out, by8_append, List.length_append]
    exact hown1
   case measure => simp [intOf]; omega
  ·obtain rfl : k = ps.length := by omega
   rw [List.take_length] at hown
   go_wp2_with fail
   go_ret
   exact ⟨bv, rfl, Bs.own hown.out, hbel⟩
end
section
open Go.RowKit
open Me
namespace Vf
theorem FlC.keep {w w' : World} {G : Nat → Prop} (hs : w.heap.size ≤ w'.heap.size) (hk : ∀ i, i < w.heap.size → G i → w'.heap[i]? = w.heap[i]?) (f : Fl) (cs : List Value) (h : FlC w G f cs) : FlC w' G f cs := by
 obtain ⟨v, e, hb⟩ := h
 exact ⟨v, e, hb.keep hs hk⟩
theorem FlC.wide {w : World} {G G' : Nat → Prop} (hG : ∀ i, i < w.heap.size → G i → G' i) (f : Fl) (cs : List Value) (h : FlC w G f cs) : FlC w G' f cs := by
 obtain ⟨v, e, hb⟩ := h
 exact ⟨v, e, hb.mono hG⟩
theorem FlC.cellOne {w : World} {G : Nat → Prop} {f : Fl} {cs : List Value} (h : FlC w G f cs) : ∀ u ∈ cs, u.oneCell' = true := by
 obtain ⟨v, rfl, A, c, rfl, _⟩ := h
 intro u hu
 simp at hu
 rcases hu with rfl | rfl <;> rfl
def MadeF (G : Nat → Prop) (w : World) (l : List Fl) (e : Ending) (w' : World) : Prop := ∃ v, e = .returned v ∧ Fs w' (fun i => G i ∨ w.heap.size ≤ i) v l ∧ Below w.heap.size w w'
def AcC (w : World) (G : Nat → Prop) (a : Ac) (cs : List Value) : Prop := ∃ v, cs = [.int .i64 a.kind, .string ⟨a.name.toArray⟩, .int .i64 (a.off : Int), v] ∧ Bs w G v a.p
def fits (l : List Fl) (a : Ac) : Prop := a.kind = 2 → ∀ (k : Nat) (h : k < l.length), (k : Int) = ix l a.name → a.off + a.p.length ≤ l[k].b.length
theorem Fs.own {w : World} {base : Nat} {e : TypeId} {v : Value} {l : List Fl} {xs : List Value} {G : Nat → Prop} (h : w.ownsRow base e 2 v l.length xs) (hG : ∀ i, base ≤ i → G i) (hE : Els (FlC w G) l xs) : Fs w G v l := by
 have h0 := h
 rcases h.2 with ⟨hv, hz⟩ | ⟨g, cap, cur, hv, hb, hg, hnc, hcm, hcs, ht⟩
 ·have hl : l = [] := List.eq_nil_of_length_eq_zero hz
  subst hl
  exact ⟨none, 0, xs, hv, Nat.le_refl _, Nat.zero_le _, by rw [show xs = [] from hE]; exact Rd.none_ _ _ _, hE⟩
 ·refine ⟨some ⟨g, 0, none⟩, cap, xs, hv, hnc, hcm, ?_, hE⟩
  rw [hv] at h0
  refine (Rd.own h0).mono fun i _ hi => ?_
  have : g = i := by simpa [Value.ownBlock] using hi
  exact hG i (by omega)
end Vf
theorem rel_next {wr W w1 : World} {mv v1 : Value} {B0 : Nat} {ys cs : List Value} {gs : List Vf.Fl} {f : Vf.Fl} {G I J : Nat → Prop}
 (hrow : ∀ g, mv.ownBlock = some g → ¬ I g) (hys : Els (Vf.FlC wr I) gs ys)
 (hWs : wr.heap.size ≤ W.heap.size) (hW : ∀ b, b < wr.heap.size → mv.ownBlock ≠ some b → W.heap[b]? = wr.heap[b]?)
 (hg1 : W.grownBy w1 mv.ownBlock) (hat1 : v1.ownBlock = mv.ownBlock ∨ v1.ownBlock = some W.heap.size)
 (hJ : ∀ b, J b → b < W.heap.size ∧ (G b ∨ B0 ≤ b)) (hJrow : ∀ g, mv.ownBlock = some g → ¬ J g) (hIJ : ∀ b, I b → J b) (hf : Vf.FlC W J f cs) :
 Els (Vf.FlC w1 J) (gs ++ [f]) (ys ++ cs) ∧ (∀ b, J b → b < w1.heap.size ∧ (G b ∨ B0 ≤ b)) ∧ (∀ g, v1.ownBlock = some g → ¬ J g) := by
 have k2 : ∀ i, i < W.heap.size → J i → w1.heap[i]? = W.heap[i]? := fun i hi hj => hg1.block i hi (fun e => hJrow i e.symm hj)
 refine ⟨Els.append (hys.mono fun f cs h => ?_) (Els.one (hf.keep hg1.size k2)), fun b hb => ⟨Nat.lt_of_lt_of_le (hJ b hb).1 hg1.size, (hJ b hb).2⟩, fun g hg hj => ?_⟩
 ·have h1 := h.keep (w' := W) hWs (fun i hi hii => hW i hi (fun e => hrow i e hii))
  exact (h1.wide (fun i _ hii => hIJ i hii)).keep hg1.size k2
 ·rcases hat1 with e | e
  ·exact hJrow g (e ▸ hg) hj
  ·rw [e] at hg
   have := (hJ g hj).1
   have := Option.some.inj hg
   omega
theorem splice_take {α : Type} {L cs : List α} {off n : Nat} (h : off + cs.length ≤ n) (hn : n ≤ L.length) : (splice L off cs).take n = (L.take n).take off ++ (cs ++ (L.take n).drop (off + cs.length)) := by
 unfold splice
 have e1 : (L.take off).take n = L.take off := List.take_of_length_le (by rw [List.length_take]; omega)
 have e0 : (L.take off).length = off := by rw [List.length_take]; omega
 have e2 : cs.take (n - off) = cs := List.take_of_length_le (by omega)
 rw [List.take_append, e1, e0, List.take_append, e2, List.take_take, Nat.min_eq_left (by omega), List.drop_take]
 congr 3
 omega
theorem by8_take (l : List UInt8) (k : Nat) : (by8 l).take k = by8 (l.take k) := by unfold by8; simp
theorem by8_drop (l : List UInt8) (k : Nat) : (by8 l).drop k = by8 (l.drop k) := by unfold by8; simp
theorem bytes_spliced {W : World} {g cap off : Nat} {e : TypeId} {L : List Value} {b p : List UInt8} (hh : W.heap[g]? = some (.cells (splice L off (by8 p)).toArray e (0, 0))) (htk : L.take b.length = by8 b)
 (hL : b.length ≤ L.length) (hoff : off + p.length ≤ b.length) (hc : b.length ≤ cap) (hcm : cap ≤ maxLen) : Bs W (fun i => i = g) (.slice (some ⟨g, 0, none⟩) b.length cap) (Vf.upd b off p) := by
 have hl := Vf.upd_len hoff
 refine ⟨some ⟨g, 0, none⟩, cap, by rw [hl], by rw [hl]; exact hc, hcm, fun _ => ⟨_, rfl, (Array.getElem?_eq_some_iff.1 hh).1, rfl, fun j u hu => ?_⟩⟩
 have hj : j < b.length := by
  have := (List.getElem?_eq_some_iff.1 hu).1
  rwa [by8_len, hl] at this
 rw [Addr.add_lit, Nat.zero_add, cell_of_row W g j _ e (0, 0) hh, List.getElem?_toArray]
 have e1 : (splice L off (by8 p)).take b.length = by8 (Vf.upd b off p) := by
  rw [splice_take (by rw [by8_len]; exact hoff) hL, htk, by8_len, by8_take, by8_drop]
  unfold Vf.upd
  rw [List.append_assoc, by8_append, by8_append]
 rw [← e1, List.getElem?_take, if_pos hj] at hu
 exact hu
theorem owns_empty (w : World) (e : TypeId) (n : Nat) (hn : n = w.heap.size) : (w.alloc (.cells #[] e)).ownsRow n e 1 (.slice (some ⟨n, 0, none⟩) 0 0) 0 [] := by
 subst hn
 exact ⟨by simp, .inr ⟨w.heap.size, 0, #[], rfl, Nat.le_refl _, heap_alloc_new w _, Nat.le_refl _, Nat.zero_le _, rfl, by simp⟩⟩
theorem rd_two {w : World} {G : Nat → Prop} {A : Option Addr} {xs : List Value} (h : Rd w G A xs) (o o' : Obj) : Rd ((w.alloc o).alloc o') G A xs :=
 (h.keep (w' := w.alloc o) (by simp) (fun i hi _ => Below.heap_alloc w o i hi)).keep (by simp) (fun i hi _ => Below.heap_alloc _ o' i hi)
theorem flinfo : (Tryz.prog.info? 129).map (fun i => (i.zero, i.size, i.bytes)) = some (some (.agg #[.string ⟨#[]⟩, .slice none 0 0]), 2, 40) := by kernel_rfl
theorem does_any (l : List Vf.Fl) (a : Vf.Ac) (v pv : Value) (G : Nat → Prop) (w : World) (hf : Vf.Fs w G v l) (hp : Bs w G pv a.p) (hl : l.length ≤ 1048576) (hfit : Hid (Vf.fits l a)) (hb : Hid (∀ f ∈ l, f.b.length ≤ 4294967296)) (ho : a.off ≤ 4294967296) :
 Calls Tryz.prog 87 #[v, .agg #[.int .i64 a.kind, .string ⟨a.name.toArray⟩, .int .i64 (a.off : Int), pv]] w (Vf.MadeF G w (Vf.does l a)) := by
 obtain ⟨i0, hi0, hz0, hz1, hz2⟩ := info_parts flinfo
 have HI := Lib.hid hi0
 have HZ := Lib.hid (And.intro hz0 (And.intro hz1 hz2))
 clear hi0 hz0 hz1 hz2
 obtain ⟨j0, hj0, hy0, hy1, hy2⟩ := info_parts u8info
 have HJ := Lib.hid hj0
 have HY := Lib.hid (And.intro hy0 (And.intro hy1 hy2))
 clear hj0 hy0 hy1 hy2
 have HFD := Lib.hid (fun W (h : Vf.Fs W G v l) => find_any l a.name v G W h hl)
 obtain ⟨i1, i2⟩ := Vf.ix_bd l a.name
 have HDO : Hid (Vf.does l a = Vf.goes a (Vf.ix l a.name) 0 l ++ if a.kind = 1 then [⟨a.name, a.p⟩] else []) := Lib.hid rfl
 have HFI : Hid (a.kind = 2 → ∀ (k : Nat) (h : k < l.length), (k : Int) = Vf.ix l a.name → a.off + a.p.length ≤ l[k].b.length) := hfit
 have hf1 : Vf.Fs (w.alloc (.cells #[.int .i64 a.kind, .string ⟨a.name.toArray⟩, .int .i64 (a.off : Int), pv] 122)) G v l := by
  obtain ⟨A, c, xs, e, h1, h2, h3, h4⟩ := hf
  have hs : w.heap.size ≤ (w.alloc (.cells #[.int .i64 a.kind, .string ⟨a.name.toArray⟩, .int .i64 (a.off : Int), pv] 122)).heap.size := by simp
  exact ⟨A, c, xs, e, h1, h2, h3.keep hs (fun i hi _ => Below.heap_alloc w _ i hi), h4.mono fun f cs hc => hc.keep hs (fun i hi _ => Below.heap_alloc w _ i hi)⟩
 have HF1 := Lib.hid (HFD.out _ hf1)
 obtain ⟨A, c, xs, rfl, hc, hcm, hrd, hels⟩ := hf
 unfold maxLen at hcm
 have HR := Lib.hid hrd
 have HE : Hid (Els (Vf.FlC w (fun b => G b ∧ b < w.heap.size)) l xs) := Lib.hid (hels.mono fun f cs h => h.wide (fun i hi hg => ⟨hg, hi⟩))
 have HP : Hid (Bs w (fun b => G b ∧ b < w.heap.size) pv a.p) := Lib.hid (hp.mono (fun i hi hg => ⟨hg, hi⟩))
 obtain ⟨Ap, cp, rfl, hcp, hcpm, hrdp⟩ := hp
 unfold maxLen at hcpm
 have hl' : (l.length : Int) ≤ 1048576 := by omega
 clear hrd hels hf1 HFD hrdp hfit
 generalize Vf.ix l a.name = i at *
 go_enter Tryz.func87, Tryz.ntmps87
 go_wp2_with (first | (go_at_call 54; go_must (refine (HF1.out).mono ?_; rintro e w' ⟨rfl, rfl⟩)))
 go_loopw [6, 7] (fun m j wr => ∃ (k : Nat) (mv : Value) (ys : List Value) (I : Nat → Prop), k ≤ l.length ∧ j = .int .i64 k ∧ mv = m ∧ Hid (wr.ownsRow (w.heap.size + 1) 129 2 mv (Vf.goes a i 0 (l.take k)).length ys) ∧ Hid (Els (Vf.FlC wr I) (Vf.goes a i 0 (l.take k)) ys) ∧ Hid (∀ b, I b → b < wr.heap.size ∧ (G b ∨ w.heap.size ≤ b)) ∧ Hid (∀ g, mv.ownBlock = some g → ¬ I g) ∧ Below (w.heap.size + 1) (w.alloc (.cells #[.int .i64 a.kind, .string ⟨a.name.toArray⟩, .int .i64 (a.off : Int), .slice Ap a.p.length cp] 122)) wr) (fun _ j _ => l.length - (intOf j).toNat)
 case atStart => exact ⟨0, _, [], fun _ => False, Nat.zero_le _, rfl, rfl, Lib.hid (World.ownsRow_nil _ _ _ _), Lib.hid rfl, Lib.hid (fun _ h => h.elim), Lib.hid (fun _ _ h => h), Below.refl _ _⟩
 case round =>
  obtain ⟨k, mv, ys, I, hk, rfl, rfl, hown, hys, hI, hrow, hbel⟩ := hrel
  by_cases hlt : k < l.length
  ·have hbw : Below w.heap.size w wr := ((Below.refl _ _).alloc (Nat.le_refl _) _).trans (hbel.mono (by omega))
   have hE : Els (Vf.FlC wr (fun b => G b ∧ b < w.heap.size)) l xs := HE.out.mono fun f cs h => h.keep hbw.size (fun i hi _ => hbw.block i hi)
   have hR := HR.out.below hbw
   obtain ⟨cs, hcs, hx⟩ := hE.get Vf.FlC.two k hlt
   have hxl := hE.length Vf.FlC.two
   obtain ⟨rb, ro, rfl, hlt2, hg, hcell⟩ := hR.lit (k * 2) (by omega)
   have hone := Lib.hid hcs.cellOne
   have HCS := Lib.hid hcs
   obtain ⟨bv, rfl, hbs⟩ := hcs
   have hbs2 : w.heap.size < wr.heap.size := by have := hbel.size; simp at this; omega
   have HBS := Lib.hid hbs
   obtain ⟨A2, c2, rfl, hc2, hcm2, hrd2⟩ := hbs
   have HRD2 := Lib.hid hrd2
   unfold maxLen at hcm2
   have hcl : wr.cell? ⟨rb, ro + k * 2, none⟩ = some (.string ⟨(l[k].name).toArray⟩) := hcell _ _ (hx 0 (by omega))
   have hcl2 : wr.cell? ⟨rb, ro + k * 2 + 1, none⟩ = some (.slice A2 (l[k].b).length c2) := by have := hcell _ _ (hx 1 (by omega)); rwa [← Nat.add_assoc] at this
   have ca : ∀ o u, (#[Value.int .i64 a.kind, .string ⟨a.name.toArray⟩, .int .i64 (a.off : Int), .slice Ap a.p.length cp])[o]? = some u → wr.cell? ⟨w.heap.size, o, none⟩ = some u := by
    intro o u hu
    rw [hbel.cell (p := ⟨w.heap.size, o, none⟩) (by simp), World.cell?_alloc_new]
    exact hu
   have ca0 := ca 0 _ rfl
   have ca1 := ca 1 _ rfl
   have ca2 := ca 2 _ rfl
   have ca3 := ca 3 _ rfl
   clear hE hR hx hxl hcell ca hrd2
   by_cases hki : (k : Int) = i
   ·have hkb : ((k : Int) == i) = true := by simpa using hki
    have hkb2 : ((k : Int) != i) = false := by simpa using hki
    by_cases h2 : a.kind = 2
    ·have hk2 : (a.kind == 2) = true := by simpa using h2
     have hk3' : (a.kind != 3) = true := by rw [h2]; rfl
     have hk3 : (a.kind == 3) = false := by rw [h2]; rfl
     have hG : Hid (Vf.goes a i 0 (l.take (k + 1)) = Vf.goes a i 0 (l.take k) ++ [⟨l[k].name, Vf.upd l[k].b a.off a.p⟩]) := Lib.hid (by rw [Vf.goes_take a i l k hlt]; unfold Vf.one; rw [if_pos ⟨hki, h2⟩])
     have hfits := HFI.out h2 k hlt hki
     have hnb := hb.out l[k] (List.getElem_mem hlt)
     have HKI := Lib.hid hki
     clear hki h2
     go_wp2_with (at_builtin; refine wpList_app _ rfl (.tmp 32) (.tmp 34) 49 rfl (wr.heap.size + 1) 5 j0 (.int .u8 0) 1 1 Tryz.underlying49 HJ.out HY.out.1 HY.out.2.1 HY.out.2.2 rfl (by decide) (.slice (some ⟨wr.heap.size + 1, 0, none⟩) 0 0) 0 [] rfl (owns_empty _ _ _ (by simp)) (fun b => G b ∧ b < w.heap.size) A2 (l[k].b).length c2 (by8 l[k].b) rfl (by rw [by8_len]; omega) (rd_two HRD2.out _ _) (by8_one _) (by unfold maxLen; omega) (by omega) (by simp) ?_; intro v1 w1 hown1 hg1 hat1 hnil1)
     obtain ⟨g, cap, cur, hv1, hg0, hgv, hnc, hcm1, hcs1, htk⟩ : ∃ g cap cur, v1 = .slice (some ⟨g, 0, none⟩) (l[k].b).length cap ∧ wr.heap.size + 1 ≤ g ∧ w1.heap[g]? = some (.cells cur 5 (0, 0)) ∧ (l[k].b).length ≤ cap ∧ cap ≤ maxLen ∧ cur.size = cap ∧ cur.toList.take (l[k].b).length = by8 l[k].b := by
      rcases hown1.2 with ⟨hv, _⟩ | ⟨g, cap, cur, hv, h1, h2, h3, h4, h5, h6⟩
      ·exact absurd (hnil1 hv) (by simp)
      ·exact ⟨g, cap, cur, by simpa using hv, h1, h2, by simpa using h3, h4, by simpa using h5, by simpa using h6⟩
     subst hv1
     unfold maxLen at hcm1
     have hbX : Below (wr.heap.size + 1) (wr.alloc (.cells #[.string ⟨(l[k].name).toArray⟩, .slice A2 (l[k].b).length c2] 129)) w1 := ((Below.refl _ _).alloc (by simp) _).grown hg1 (by simp) (fun g hg => by simp [Value.ownBlock] at hg; omega)
     have HBX := Lib.hid hbX
     have HGV := Lib.hid hgv
     have HCS1 := Lib.hid hcs1
     have HTK := Lib.hid htk
     have hw2 : wr.heap.size + 1 < w1.heap.size := by have := (Array.getElem?_eq_some_iff.1 hgv).1; omega
     have ca0w : w1.cell? ⟨w.heap.size, 0, none⟩ = some (.int .i64 a.kind) := (hbX.cell (p := ⟨w.heap.size, 0, none⟩) (by simp; omega)).trans ((World.cell?_alloc_lt _ _ _ (by simpa using hbs2)).trans ca0)
     have ca2w : w1.cell? ⟨w.heap.size, 2, none⟩ = some (.int .i64 (a.off : Int)) := (hbX.cell (p := ⟨w.heap.size, 2, none⟩) (by simp; omega)).trans ((World.cell?_alloc_lt _ _ _ (by simpa using hbs2)).trans ca2)
     have ca3w : w1.cell? ⟨w.heap.size, 3, none⟩ = some (.slice Ap a.p.length cp) := (hbX.cell (p := ⟨w.heap.size, 3, none⟩) (by simp; omega)).trans ((World.cell?_alloc_lt _ _ _ (by simpa using hbs2)).trans ca3)
     have cX0 : w1.cell? ⟨wr.heap.size, 0, none⟩ = some (.string ⟨(l[k].name).toArray⟩) := (hbX.cell (p := ⟨wr.heap.size, 0, none⟩) (by simp)).trans (by rw [World.cell?_alloc_new]; rfl)
     have cX1 : w1.cell? ⟨wr.heap.size, 1, none⟩ = some (.slice A2 (l[k].b).length c2) := (hbX.cell (p := ⟨wr.heap.size, 1, none⟩) (by simp)).trans (by rw [World.cell?_alloc_new]; rfl)
     obtain ⟨D, hD⟩ : ∃ D, (if cap = a.off then some (⟨g, 0, none⟩ : Addr) else some ⟨g, a.off, none⟩) = D := ⟨_, rfl⟩
     have HPW : Hid (Bs w1 (fun b => G b ∧ b < w.heap.size) (.slice Ap a.p.length cp) a.p) := Lib.hid (HP.out.keep (by have := hbw.size; omega) (fun b hb' _ => by
      rw [hbX.block b (by have := hbw.size; omega), Below.heap_alloc wr _ b (by have := hbw.size; omega)]
      exact hbw.block b hb'))
     have HD : Hid (0 < (by8 a.p).length → D = some ⟨g, a.off, none⟩ ∧ ∃ ad, Ap = some ad ∧ ∀ j v, (by8 a.p)[j]? = some v → w1.drew.cell? (ad.add j) = some v) := Lib.hid (fun h0 => by
      rw [by8_len] at h0
      refine ⟨by rw [← hD, if_neg (by omega)], ?_⟩
      obtain ⟨A', c', e, _, _, hr⟩ := HPW.out
      injection e with e1 e2 e3
      subst e1
      obtain ⟨ad, e, _, _, hc'⟩ := hr.at_ 0 (by rw [by8_len]; exact h0)
      exact ⟨ad, e, hc'⟩)
     have hD' := hD
     have HD' := Lib.hid hD'
     have hmin : Hid ((by8 a.p).length = Nat.min a.p.length ((l[k].b).length - a.off)) := Lib.hid (by rw [by8_len]; exact (Nat.min_eq_left (by omega)).symm)
     have hfit2 : Hid (a.off + (by8 a.p).length ≤ cur.toList.length) := Lib.hid (by rw [by8_len, Array.length_toList, hcs1]; omega)
     have hsz1 : Hid ((Tryz.prog.info? 5).map (·.size) = some 1) := Lib.hid (by kernel_rfl)
     have o0 : (0 : Int) ≤ (a.off : Int) := by omega
     have o1 : (a.off : Int) ≤ ((l[k].b).length : Int) := by omega
     have o2 : a.off ≤ cap := by omega
     clear hgv hcs1 htk hbX hown1 hg1 hat1 hnil1 hD'
     go_region_law (refine step_copy_splice rfl (.tmp 39) (.tmp 41) 49 49 rfl 5 Tryz.underlying49 hsz1.out D Ap ((l[k].b).length - a.off) (cap - a.off) a.p.length cp (by simp [Act.eval, Act.put]) (by simp [Act.eval, Act.put]) g a.off cur.toList 5 HGV.out (by8 a.p) hmin.out HD.out hfit2.out (by8_one _) g w1 (Below.refl _ _).drew (Nat.le_refl _) ?_; intro w2 hh2 hb2)
     all_goals
      have hg1' : wr.heap.size < g := by omega
      have cX0' : w2.cell? ⟨wr.heap.size, 0, none⟩ = some (.string ⟨(l[k].name).toArray⟩) := (hb2.cell (p := ⟨wr.heap.size, 0, none⟩) hg1').trans cX0
      have cX1' : w2.cell? ⟨wr.heap.size, 1, none⟩ = some (.slice A2 (l[k].b).length c2) := (hb2.cell (p := ⟨wr.heap.size, 1, none⟩) hg1').trans cX1
      have fX1 : w2.frozen? ⟨wr.heap.size, 1, none⟩ = false := (hb2.frozen (p := ⟨wr.heap.size, 1, none⟩) hg1').trans ((HBX.out.frozen (p := ⟨wr.heap.size, 1, none⟩) (by simp)).trans (by simp [go_sem]))
      have ca0' : w2.cell? ⟨w.heap.size, 0, none⟩ = some (.int .i64 a.kind) := (hb2.cell (p := ⟨w.heap.size, 0, none⟩) (by show w.heap.size < g; omega)).trans ca0w
      have hw3 : g < w2.heap.size := (Array.getElem?_eq_some_iff.1 hh2.out).1
      have HW12 : Hid (∀ b, b < wr.heap.size → w2.heap[b]? = wr.heap[b]?) := Lib.hid (fun b hb' => (hb2.block b (by omega)).trans ((HBX.out.block b (by omega)).trans (Below.heap_alloc wr _ b hb')))
      have hgl := Lib.hid (Vf.goes_len a i (l.take k) 0)
      have hrt : Hid ((l.take k).length = k) := Lib.hid (by rw [List.length_take]; omega)
      have HOW : Hid (((w2.setCell ⟨wr.heap.size, 1, none⟩ (.slice (some ⟨g, 0, none⟩) (l[k].b).length cap)).alloc (.cells #[.string ⟨(l[k].name).toArray⟩, .slice (some ⟨g, 0, none⟩) (l[k].b).length cap] 129)).ownsRow (w.heap.size + 1) 129 2 mv (Vf.goes a i 0 (l.take k)).length ys) := Lib.hid (owns_keep hown.out (fun g' hg' => by
       have hlt' := (hown.out.lt g' hg').2
       rw [Below.heap_alloc _ _ g' (by simp [World.setCell]; omega), Below.heap_setCell w2 ⟨wr.heap.size, 1, none⟩ _ g' (by show g' ≠ wr.heap.size; omega)]
       exact HW12.out g' hlt'))
      go_wp2_with (at_builtin; refine wpList_app _ rfl (.tmp 53) (.tmp 55) 79 rfl (w.heap.size + 1) 129 i0 _ 2 40 Tryz.underlying79 HI.out HZ.out.1 HZ.out.2.1 HZ.out.2.2 rfl (by decide) mv _ ys rfl HOW.out (fun b => b = w2.heap.size) (some ⟨w2.heap.size, 0, none⟩) 1 1 [.string ⟨(l[k].name).toArray⟩, .slice (some ⟨g, 0, none⟩) (l[k].b).length cap] rfl (by simp) (Rd.fresh _ _ _ _ (by simp [World.setCell])) (by intro u hu; simp at hu; rcases hu with rfl | rfl <;> rfl) (by have := hgl.out; have := hrt.out; unfold maxLen; omega) (by have := hgl.out; have := hrt.out; omega) (by simp [World.setCell]; omega) ?_; intro v3 w3 hown3 hg3 hat3 hnil3)
      have hbs1 : w.heap.size + 1 ≤ wr.heap.size := by omega
      have HG2 : Hid ((((w2.setCell ⟨wr.heap.size, 1, none⟩ (.slice (some ⟨g, 0, none⟩) (l[k].b).length cap)).alloc (.cells #[.string ⟨(l[k].name).toArray⟩, .slice (some ⟨g, 0, none⟩) (l[k].b).length cap] 129))).heap[g]? = some (.cells (splice cur.toList a.off (by8 a.p)).toArray 5 (0, 0))) := Lib.hid (by
       rw [Below.heap_alloc _ _ g (by simp [World.setCell]; omega), Below.heap_setCell w2 ⟨wr.heap.size, 1, none⟩ _ g (by show g ≠ wr.heap.size; omega)]
       exact hh2.out)
      have hnew := bytes_spliced HG2.out HTK.out (by rw [Array.length_toList, HCS1.out]; omega) hfits hnc (by unfold maxLen; omega)
      obtain ⟨n1, n2, n3⟩ := rel_next (G := G) (B0 := w.heap.size) (J := fun b => I b ∨ b = g) (f := ⟨l[k].name, Vf.upd l[k].b a.off a.p⟩) (cs := [.string ⟨(l[k].name).toArray⟩, .slice (some ⟨g, 0, none⟩) (l[k].b).length cap]) hrow.out hys.out (by simp [World.setCell]; omega) (fun b hb' _ => by
       rw [Below.heap_alloc _ _ b (by simp [World.setCell]; omega), Below.heap_setCell w2 ⟨wr.heap.size, 1, none⟩ _ b (by show b ≠ wr.heap.size; omega)]
       exact HW12.out b hb') hg3 hat3
       (fun b hb' => by
        rcases hb' with h | h
        ·exact ⟨by have := (hI.out b h).1; simp [World.setCell]; omega, (hI.out b h).2⟩
        ·exact ⟨by simp [World.setCell]; omega, .inr (by omega)⟩)
       (fun g' hg' hj => by
        rcases hj with h | h
        ·exact hrow.out g' hg' h
        ·have := (hown.out.lt g' hg').2; omega)
       (fun b h => .inl h)
       ⟨_, rfl, hnew.mono (fun b _ h => .inr h)⟩
      have N1 := Lib.hid n1
      have N2 := Lib.hid n2
      have N3 := Lib.hid n3
      have hb3 : Below (w.heap.size + 1) (w.alloc (.cells #[.int .i64 a.kind, .string ⟨a.name.toArray⟩, .int .i64 (a.off : Int), .slice Ap a.p.length cp] 122)) w3 := by
       have h1 : Below (w.heap.size + 1) wr w2 := ⟨hb2.os.trans (HBX.out.os.trans rfl), hb2.tape.trans (HBX.out.tape.trans rfl), hb2.output.trans (HBX.out.output.trans rfl), by omega, fun b hb' => HW12.out b (by omega)⟩
       exact (((hbel.trans h1).setCell (by show w.heap.size + 1 ≤ wr.heap.size; omega) _).alloc (by simp [World.setCell]; omega) _).grown hg3 (by simp [World.setCell]; omega) (fun g hg => (hown.out.lt g hg).1)
      have HB3 := Lib.hid hb3
      clear n1 n2 n3 hb3 hnew
      go_roundw
      case rel =>
       refine ⟨k + 1, v3, ys ++ [.string ⟨(l[k].name).toArray⟩, .slice (some ⟨g, 0, none⟩) (l[k].b).length cap], fun b => I b ∨ b = g, by omega, by go_num, rfl, Lib.hid ?_, Lib.hid ?_, N2, N3, HB3.out⟩
       ·rw [hG.out, List.length_append]; exact hown3
       ·rw [hG.out]; exact N1.out
      case measure => simp [intOf]; omega
    ·by_cases h3 : a.kind = 3
     ·have hk3 : (a.kind == 3) = true := by simpa using h3
      have hk3' : (a.kind != 3) = false := by simpa using h3
      have hk2 : (a.kind == 2) = false := by rw [h3]; rfl
      have hG : Hid (Vf.goes a i 0 (l.take (k + 1)) = Vf.goes a i 0 (l.take k)) := Lib.hid (by rw [Vf.goes_take a i l k hlt]; unfold Vf.one; rw [if_neg (fun h => h2 h.2), if_pos ⟨hki, h3⟩, List.append_nil])
      clear hki h2 h3
      have hbs1 : w.heap.size + 1 ≤ wr.heap.size := by have := hbel.size; simpa using this
      go_wp2_with fail
      go_roundw
      case rel =>
       refine ⟨k + 1, mv, ys, I, by omega, by go_num, rfl, Lib.hid ?_, Lib.hid ?_, Lib.hid (fun b hb' => ⟨by have := (hI.out b hb').1; simp; omega, (hI.out b hb').2⟩), hrow, hbel.alloc hbs1 _⟩
       ·rw [hG.out]; exact hown.out.alloc _
       ·rw [hG.out]; exact hys.out.mono fun f cs h => h.keep (by simp) (fun b hb' _ => Below.heap_alloc wr _ b hb')
      case measure => simp [intOf]; omega
     ·have hk3 : (a.kind == 3) = false := by simpa using h3
      have hk3' : (a.kind != 3) = true := by simpa using h3
      have hk2 : (a.kind == 2) = false := by simpa using h2
      have hG : Hid (Vf.goes a i 0 (l.take (k + 1)) = Vf.goes a i 0 (l.take k) ++ [l[k]]) := Lib.hid (by rw [Vf.goes_take a i l k hlt]; unfold Vf.one; rw [if_neg (fun h => h2 h.2), if_neg (fun h => h3 h.2)])
      clear hki h2 h3
      have hgl := Lib.hid (Vf.goes_len a i (l.take k) 0)
      have hrt : Hid ((l.take k).length = k) := Lib.hid (by rw [List.length_take]; omega)
      go_wp2_with (at_builtin; refine wpList_app _ rfl (.tmp 53) (.tmp 55) 79 rfl (w.heap.size + 1) 129 i0 _ 2 40 Tryz.underlying79 HI.out HZ.out.1 HZ.out.2.1 HZ.out.2.2 rfl (by decide) mv _ ys rfl ((hown.out.alloc _).alloc _) (fun b => b = wr.heap.size + 1) (some ⟨wr.heap.size + 1, 0, none⟩) 1 1 [.string ⟨(l[k].name).toArray⟩, .slice A2 (l[k].b).length c2] rfl (by simp) (Rd.fresh _ _ _ _ (by simp)) hone.out (by have := hgl.out; have := hrt.out; unfold maxLen; omega) (by have := hgl.out; have := hrt.out; omega) (by have := hbel.size; simp at this ⊢; omega) ?_; intro v1 w1 hown1 hg1 hat1 hnil1)
      have hbs1 : w.heap.size + 1 ≤ wr.heap.size := by have := hbel.size; simpa using this
      have hrl : ∀ g, mv.ownBlock = some g → w.heap.size + 1 ≤ g := fun g hg => (hown.out.lt g hg).1
      obtain ⟨n1, n2, n3⟩ := rel_next (G := G) (B0 := w.heap.size) (J := fun b => I b ∨ (G b ∧ b < w.heap.size)) (f := l[k]) hrow.out hys.out (by simp; omega) (fun b hb' _ => ((Below.heap_alloc _ _ b (by simp; omega)).trans (Below.heap_alloc wr _ b hb'))) hg1 hat1
       (fun b hb' => by
        rcases hb' with h | ⟨h1, h2⟩
        ·exact ⟨by have := (hI.out b h).1; simp; omega, (hI.out b h).2⟩
        ·exact ⟨by have := hbw.size; simp; omega, .inl h1⟩)
       (fun g hg hj => by
        rcases hj with h | h
        ·exact hrow.out g hg h
        ·have := hrl g hg; omega)
       (fun b h => .inl h)
       (((HCS.out.keep (w' := wr.alloc _) (by simp) (fun i hi _ => Below.heap_alloc wr _ i hi)).keep (w' := (wr.alloc _).alloc _) (by simp) (fun i hi _ => Below.heap_alloc _ _ i hi)).wide (fun i _ h => .inr h))
      have N1 := Lib.hid n1
      have N2 := Lib.hid n2
      have N3 := Lib.hid n3
      clear n1 n2 n3 hrl
      go_roundw
      case rel =>
       refine ⟨k + 1, v1, ys ++ [.string ⟨(l[k].name).toArray⟩, .slice A2 (l[k].b).length c2], fun b => I b ∨ (G b ∧ b < w.heap.size), by omega, by go_num, rfl, Lib.hid ?_, Lib.hid ?_, N2, N3, ((hbel.alloc hbs1 _).alloc (by simp; omega) _).grown hg1 (by simp; omega) (fun g hg => (hown.out.lt g hg).1)⟩
       ·rw [hG.out, List.length_append]; exact hown1
       ·rw [hG.out]; exact N1.out
      case measure => simp [intOf]; omega
   ·have hkb : ((k : Int) == i) = false := by simpa using hki
    have hkb2 : ((k : Int) != i) = true := by simpa using hki
    have hG : Hid (Vf.goes a i 0 (l.take (k + 1)) = Vf.goes a i 0 (l.take k) ++ [l[k]]) := Lib.hid (by rw [Vf.goes_take a i l k hlt]; unfold Vf.one; rw [if_neg (fun h => hki h.1), if_neg (fun h => hki h.1)])
    clear hki
    have hgl := Lib.hid (Vf.goes_len a i (l.take k) 0)
    have hrt : Hid ((l.take k).length = k) := Lib.hid (by rw [List.length_take]; omega)
    go_wp2_with (at_builtin; refine wpList_app _ rfl (.tmp 53) (.tmp 55) 79 rfl (w.heap.size + 1) 129 i0 _ 2 40 Tryz.underlying79 HI.out HZ.out.1 HZ.out.2.1 HZ.out.2.2 rfl (by decide) mv _ ys rfl ((hown.out.alloc _).alloc _) (fun b => b = wr.heap.size + 1) (some ⟨wr.heap.size + 1, 0, none⟩) 1 1 [.string ⟨(l[k].name).toArray⟩, .slice A2 (l[k].b).length c2] rfl (by simp) (Rd.fresh _ _ _ _ (by simp)) hone.out (by have := hgl.out; have := hrt.out; unfold maxLen; omega) (by have := hgl.out; have := hrt.out; omega) (by have := hbel.size; simp at this ⊢; omega) ?_; intro v1 w1 hown1 hg1 hat1 hnil1)
    have hbs1 : w.heap.size + 1 ≤ wr.heap.size := by have := hbel.size; simpa using this
    have hrl : ∀ g, mv.ownBlock = some g → w.heap.size + 1 ≤ g := fun g hg => (hown.out.lt g hg).1
    obtain ⟨n1, n2, n3⟩ := rel_next (G := G) (B0 := w.heap.size) (J := fun b => I b ∨ (G b ∧ b < w.heap.size)) (f := l[k]) hrow.out hys.out (by simp; omega) (fun b hb' _ => ((Below.heap_alloc _ _ b (by simp; omega)).trans (Below.heap_alloc wr _ b hb'))) hg1 hat1
     (fun b hb' => by
      rcases hb' with h | ⟨h1, h2⟩
      ·exact ⟨by have := (hI.out b h).1; simp; omega, (hI.out b h).2⟩
      ·exact ⟨by have := hbw.size; simp; omega, .inl h1⟩)
     (fun g hg hj => by
      rcases hj with h | h
      ·exact hrow.out g hg h
      ·have := hrl g hg; omega)
     (fun b h => .inl h)
     (((HCS.out.keep (w' := wr.alloc _) (by simp) (fun i hi _ => Below.heap_alloc wr _ i hi)).keep (w' := (wr.alloc _).alloc _) (by simp) (fun i hi _ => Below.heap_alloc _ _ i hi)).wide (fun i _ h => .inr h))
    have N1 := Lib.hid n1
    have N2 := Lib.hid n2
    have N3 := Lib.hid n3
    clear n1 n2 n3 hrl
    go_roundw
    case rel =>
     refine ⟨k + 1, v1, ys ++ [.string ⟨(l[k].name).toArray⟩, .slice A2 (l[k].b).length c2], fun b => I b ∨ (G b ∧ b < w.heap.size), by omega, by go_num, rfl, Lib.hid ?_, Lib.hid ?_, N2, N3, ((hbel.alloc hbs1 _).alloc (by simp; omega) _).grown hg1 (by simp; omega) (fun g hg => (hown.out.lt g hg).1)⟩
     ·rw [hG.out, List.length_append]; exact hown1
     ·rw [hG.out]; exact N1.out
    case measure => simp [intOf]; omega
  ·obtain rfl : k = l.length := by omega
   rw [List.take_length] at hown hys
   have hbs1 : w.heap.size + 1 ≤ wr.heap.size := by have := hbel.size; simpa using this
   have hrl : ∀ g, mv.ownBlock = some g → w.heap.size + 1 ≤ g := fun g hg => (hown.out.lt g hg).1
   have HRL := Lib.hid hrl
   have hbs2 : w.heap.size < wr.heap.size := by omega
   clear hrl
   have hbw : Below w.heap.size w wr := ((Below.refl _ _).alloc (Nat.le_refl _) _).trans (hbel.mono (by omega))
   have ca : ∀ o u, (#[Value.int .i64 a.kind, .string ⟨a.name.toArray⟩, .int .i64 (a.off : Int), .slice Ap a.p.length cp])[o]? = some u → wr.cell? ⟨w.heap.size, o, none⟩ = some u := by
    intro o u hu
    rw [hbel.cell (p := ⟨w.heap.size, o, none⟩) (by simp), World.cell?_alloc_new]
    exact hu
   have ca0 := ca 0 _ rfl
   have ca1 := ca 1 _ rfl
   have ca2 := ca 2 _ rfl
   have ca3 := ca 3 _ rfl
   clear ca
   by_cases h1 : a.kind = 1
   ·have hk1 : (a.kind == 1) = true := by simpa using h1
    have hG : Hid (Vf.does l a = Vf.goes a i 0 l ++ [⟨a.name, a.p⟩]) := Lib.hid (by rw [HDO.out, if_pos h1])
    clear h1
    have hgl := Lib.hid (Vf.goes_len a i l 0)
    go_wp2_with (at_builtin; refine wpList_app _ rfl (.tmp 60) (.tmp 66) 79 rfl (w.heap.size + 1) 129 i0 _ 2 40 Tryz.underlying79 HI.out HZ.out.1 HZ.out.2.1 HZ.out.2.2 rfl (by decide) mv _ ys rfl (hown.out.alloc _) (fun b => b = wr.heap.size) (some ⟨wr.heap.size, 0, none⟩) 1 1 [.string ⟨a.name.toArray⟩, .slice Ap a.p.length cp] rfl (by simp) (Rd.fresh _ _ _ _ rfl) (by intro u hu; simp at hu; rcases hu with rfl | rfl <;> rfl) (by have := hgl.out; unfold maxLen; omega) (by have := hgl.out; omega) (by simp; omega) ?_; intro v1 w1 hown1 hg1 hat1 hnil1)
    have hpw : Bs wr (fun b => G b ∧ b < w.heap.size) (.slice Ap a.p.length cp) a.p := HP.out.below hbw
    obtain ⟨n1, n2, n3⟩ := rel_next (G := G) (B0 := w.heap.size) (J := fun b => I b ∨ (G b ∧ b < w.heap.size)) (f := ⟨a.name, a.p⟩) (cs := [.string ⟨a.name.toArray⟩, .slice Ap a.p.length cp]) hrow.out hys.out (by simp) (fun b hb' _ => Below.heap_alloc wr _ b hb') hg1 hat1
     (fun b hb' => by
      rcases hb' with h | ⟨h1, h2⟩
      ·exact ⟨by have := (hI.out b h).1; simp; omega, (hI.out b h).2⟩
      ·exact ⟨by have := hbw.size; simp; omega, .inl h1⟩)
     (fun g hg hj => by
      rcases hj with h | h
      ·exact hrow.out g hg h
      ·have := HRL.out g hg; omega)
     (fun b h => .inl h)
     ⟨_, rfl, (hpw.keep (by simp) (fun b hb' _ => Below.heap_alloc wr _ b hb')).mono (fun b _ h => .inr h)⟩
    have N1 := Lib.hid n1
    have N2 := Lib.hid n2
    clear n1 n2 n3 hpw
    go_wp2_with fail
    go_ret
    refine ⟨v1, rfl, ?_, (hbw.alloc hbw.size _).grown hg1 (by simp; omega) (fun g hg => by have := HRL.out g hg; omega)⟩
    ·rw [hG.out]
     refine Vf.Fs.own (xs := ys ++ [.string ⟨a.name.toArray⟩, .slice Ap a.p.length cp]) (by rw [List.length_append]; exact hown1) (fun b hb' => .inr (by omega)) (N1.out.mono fun f cs h => h.wide (fun b _ hj => ?_))
     exact (N2.out b hj).2
   ·have hk1 : (a.kind == 1) = false := by simpa using h1
    have hG : Hid (Vf.does l a = Vf.goes a i 0 l) := Lib.hid (by rw [HDO.out, if_neg h1, List.append_nil])
    clear h1
    go_wp2_with fail
    go_ret
    refine ⟨mv, rfl, ?_, hbw⟩
    rw [hG.out]
    exact Vf.Fs.own hown.out (fun b hb' => .inr (by omega)) (hys.out.mono fun f cs h => h.wide (fun b _ hj => (hI.out b hj).2))
end
section
open Go.RowKit
open Me
namespace Vf
structure Sv where
 room : Int
 now : List Fl
 was : List Fl
 l : List Ac
def used (l : List Fl) : Nat := (l.map (·.b.length)).sum
theorem used_take (l : List Fl) (k : Nat) (h : k < l.length) : used (l.take (k + 1)) = used (l.take k) + l[k].b.length := by
 unfold used
 rw [List.take_succ_eq_append_getElem h, List.map_append, List.sum_append]
 simp
theorem used_le (l : List Fl) (k : Nat) : used (l.take k) ≤ used l := by
 unfold used
 conv => rhs; rw [← List.take_append_drop k l]
 rw [List.map_append, List.sum_append]
 omega
theorem AcC.keep {w w' : World} {G : Nat → Prop} (hs : w.heap.size ≤ w'.heap.size) (hk : ∀ i, i < w.heap.size → G i → w'.heap[i]? = w.heap[i]?) (a : Ac) (cs : List Value) (h : AcC w G a cs) : AcC w' G a cs := by
 obtain ⟨v, e, hb⟩ := h
 exact ⟨v, e, hb.keep hs hk⟩
theorem AcC.wide {w : World} {G G' : Nat → Prop} (hG : ∀ i, i < w.heap.size → G i → G' i) (a : Ac) (cs : List Value) (h : AcC w G a cs) : AcC w G' a cs := by
 obtain ⟨v, e, hb⟩ := h
 exact ⟨v, e, hb.mono hG⟩
theorem Fs.keep {w w' : World} {G : Nat → Prop} {v : Value} {l : List Fl} (h : Fs w G v l) (hs : w.heap.size ≤ w'.heap.size) (hk : ∀ i, i < w.heap.size → G i → w'.heap[i]? = w.heap[i]?) : Fs w' G v l := by
 obtain ⟨A, c, xs, e, h1, h2, h3, h4⟩ := h
 exact ⟨A, c, xs, e, h1, h2, h3.keep hs hk, h4.mono fun f cs hc => hc.keep hs hk⟩
theorem Fs.wide {w : World} {G G' : Nat → Prop} {v : Value} {l : List Fl} (h : Fs w G v l) (hG : ∀ i, i < w.heap.size → G i → G' i) : Fs w G' v l := by
 obtain ⟨A, c, xs, e, h1, h2, h3, h4⟩ := h
 exact ⟨A, c, xs, e, h1, h2, h3.mono hG, h4.mono fun f cs hc => hc.wide hG⟩
structure At (w : World) (G : Nat → Prop) (fs : Nat) (lr : Option Nat) (S : Sv) (nv wv lv : Value) (ys : List Value) : Prop where
 heap : w.heap[fs]? = some (.cells #[.int .i64 S.room, nv, wv, lv] 82 (0, 0))
 now : Fs w G nv S.now
 was : Fs w G wv S.was
 own : w.ownsRow 0 122 4 lv S.l.length ys
 acts : Els (AcC w G) S.l ys
 row : lv.ownBlock = lr
 gfs : ¬ G fs
 glr : ∀ g, lr = some g → ¬ G g ∧ g ≠ fs
 lt : ∀ b, G b → b < w.heap.size
theorem At.cells {w : World} {G : Nat → Prop} {fs : Nat} {lr : Option Nat} {S : Sv} {nv wv lv : Value} {ys : List Value} (h : At w G fs lr S nv wv lv ys) :
 w.cell? ⟨fs, 0, none⟩ = some (.int .i64 S.room) ∧ w.cell? ⟨fs, 1, none⟩ = some nv ∧ w.cell? ⟨fs, 2, none⟩ = some wv ∧ w.cell? ⟨fs, 3, none⟩ = some lv ∧ ∀ i, w.frozen? ⟨fs, i, none⟩ = false := by
 refine ⟨?_, ?_, ?_, ?_, fun i => ?_⟩
 ·rw [cell_of_row w fs 0 _ _ _ h.heap]; rfl
 ·rw [cell_of_row w fs 1 _ _ _ h.heap]; rfl
 ·rw [cell_of_row w fs 2 _ _ _ h.heap]; rfl
 ·rw [cell_of_row w fs 3 _ _ _ h.heap]; rfl
 ·simp [World.frozen?, h.heap]
theorem At.fsLt {w : World} {G : Nat → Prop} {fs : Nat} {lr : Option Nat} {S : Sv} {nv wv lv : Value} {ys : List Value} (h : At w G fs lr S nv wv lv ys) : fs < w.heap.size := (Array.getElem?_eq_some_iff.1 h.heap).1
end Vf
theorem used_any {w : World} {G : Nat → Prop} {fs : Nat} {lr : Option Nat} {S : Vf.Sv} {nv wv lv : Value} {ys : List Value} (h : Vf.At w G fs lr S nv wv lv ys) (hl : S.now.length ≤ 1048576) (hu : Vf.used S.now ≤ 1099511627776) :
 Calls Tryz.prog 55 #[.pointer (some ⟨fs, 0, none⟩)] w fun e w' => e = .returned (.int .i64 (Vf.used S.now : Int)) ∧ w = w' := by
 obtain ⟨c0, c1, c2, c3, hf⟩ := h.cells
 obtain ⟨A, c, xs, rfl, hc, hcm, hrd, hels⟩ := h.now
 unfold maxLen at hcm
 have HR := Lib.hid hrd
 have HE := Lib.hid hels
 have hl' : (S.now.length : Int) ≤ 1048576 := by omega
 clear hrd hels h c0 c2 c3 hf
 generalize S.now = l at *
 go_enter Tryz.func55, Tryz.ntmps55
 go_wp2_with fail
 go_loop [3, 4] (fun n i => ∃ (k : Nat) (x : Int), k ≤ l.length ∧ i = .int .i64 k ∧ n = .int .i64 x ∧ 0 ≤ x ∧ x ≤ 1099511627776 ∧ Hid (x = (Vf.used (l.take k) : Int))) (fun _ i => l.length - (intOf i).toNat)
 case atStart => exact ⟨0, 0, Nat.zero_le _, rfl, rfl, by omega, by omega, Lib.hid rfl⟩
 case round =>
  obtain ⟨k, x, hk, rfl, rfl, x0, x1, hx⟩ := hrel
  by_cases hlt : k < l.length
  ·obtain ⟨cs, ⟨bv, rfl, hbs⟩, hxx⟩ := HE.out.get Vf.FlC.two k hlt
   have hxl := HE.out.length Vf.FlC.two
   obtain ⟨rb, ro, rfl, hlt2, hg, hcell⟩ := HR.out.lit (k * 2) (by omega)
   obtain ⟨A2, cc, rfl, hc2, hcm2, hrd2⟩ := hbs
   have hcl2 : w.cell? ⟨rb, ro + k * 2 + 1, none⟩ = some (.slice A2 (l[k].b).length cc) := by have := hcell _ _ (hxx 1 (by omega)); rwa [← Nat.add_assoc] at this
   have hs := Lib.hid (Vf.used_take l k hlt)
   have hle := Vf.used_le l (k + 1)
   have hb : x + (l[k].b).length ≤ 1099511627776 := by have := hs.out; have := hx.out; omega
   clear hxx hxl hcell hrd2 hle
   go_wp2_with fail
   go_round
   case rel => exact ⟨k + 1, _, by omega, by go_num, rfl, by omega, by omega, Lib.hid (by rw [hs.out]; have := hx.out; omega)⟩
   case measure => simp [intOf]; omega
  ·obtain rfl : k = l.length := by omega
   rw [List.take_length] at hx
   go_wp2_with fail
   go_ret
   exact ⟨ret_i64 hx.out, rfl⟩
end
end Go.Proofs.YtbakngbmfgnmcaaGreatDoor
