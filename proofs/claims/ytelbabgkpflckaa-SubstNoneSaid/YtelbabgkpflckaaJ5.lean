/-
  OwnB: BYTES: rows of the call's own, rows that are read, numbers as four bytes; the document's Four and FromFour (chapter 4's), where a seat has them.
  PkMem: CHAPTER 12, MEMORY: rows of one's own side by side; the search's object.
-/
import Derived.Test.YtelbabgkpflckaaJ3
import Derived.Test.YtelbabgkpflckaaRows
import Derived.Test.YtelbabgkpflckaaJ4
import Derived.WalkKit
import Derived.WalkSpells
import Derived.WalkLawsBesides
import Derived.Deep.QuietTactic
import Derived.BigQuiet
import Derived.Lib.QuietBelow
import Derived.Lib.Hide
import Derived.IntWalk
import Derived.Deep.RegionHeld3
import Derived.Laws.MakeOwn
import Derived.Laws.BitsLemmas
import Derived.Laws.IdiomStrings
import Derived.Lib.BufferRead
import Derived.WalkSmall
import Derived.Laws.OwnMore

set_option linter.unusedSimpArgs false
set_option linter.unusedVariables false
namespace Go.Proofs.Ytelbabgkpflckaa
open Go.RowKit Go.Sort
open Me

theorem info_parts {P : Program} {e : TypeId} {z : Value} {a b : Nat} (h : (P.info? e).map (fun i => (i.zero, i.size, i.bytes)) = some (some z, a, b)) : ∃ i, P.info? e = some i ∧ i.zero = some z ∧ i.size = a ∧ i.bytes = b := by
  cases hi : P.info? e with
  | none => rw [hi] at h; cases h
  | some i => rw [hi] at h; simp at h; exact ⟨i, rfl, h.1, h.2.1, h.2.2⟩

namespace Wh
def four (n : Int) : List UInt8 := [UInt8.ofNat ((n / 16777216) % 256).toNat, UInt8.ofNat ((n / 65536) % 256).toNat, UInt8.ofNat ((n / 256) % 256).toNat, UInt8.ofNat (n % 256).toNat]
def fours (ns : List Int) : List UInt8 := ns.flatMap four
theorem fours_len (ns : List Int) : (fours ns).length = 4 * ns.length := by
  induction ns with
  | nil => rfl
  | cons n ns ih => unfold fours at *; simp [List.flatMap_cons, four, ih]; omega
theorem fours_take (ns : List Int) (k : Nat) (h : k < ns.length) : fours (ns.take (k + 1)) = fours (ns.take k) ++ four ns[k] := by
  unfold fours
  rw [List.take_succ_eq_append_getElem h, List.flatMap_append]
  simp
theorem u8of (x : Int) : ((UInt8.ofNat (x % 256).toNat).toNat : Int) = x % 256 := by
  have h1 := Int.emod_nonneg x (by omega : (256 : Int) ≠ 0)
  have h2 := Int.emod_lt_of_pos x (by omega : (0 : Int) < 256)
  rw [UInt8.toNat_ofNat', Nat.mod_eq_of_lt (by omega)]
  omega
theorem by8_four (n : Int) : by8 (four n) = [.int .u8 ((n / 16777216) % 256), .int .u8 ((n / 65536) % 256), .int .u8 ((n / 256) % 256), .int .u8 (n % 256)] := by
  unfold by8 four
  simp only [List.map_cons, List.map_nil, u8of]
end Wh

def OwnB (base : Nat) (w : World) (v : Value) (l : List UInt8) : Prop := w.ownsRow base 5 1 v l.length (by8 l)
/-- What an append leaves. -/
def Laid (base : Nat) (w : World) (v : Value) (l : List UInt8) (e : Ending) (w' : World) : Prop :=
  ∃ v', e = .returned v' ∧ OwnB base w' v' l ∧ Kp (fun b => v.ownBlock = some b) w w' ∧ (∀ g, v'.ownBlock = some g → v.ownBlock = some g ∨ w.heap.size ≤ g)

theorem own_lt {base : Nat} {w : World} {v : Value} {l : List UInt8} (h : OwnB base w v l) : ∀ g, v.ownBlock = some g → base ≤ g ∧ g < w.heap.size := by
  intro g hg
  rcases h.2 with ⟨rfl, _⟩ | ⟨g', cap, cur, rfl, hb, hh, _⟩
  · cases hg
  · have : g' = g := by simpa [Value.ownBlock] using hg
    subst this
    exact ⟨hb, (Array.getElem?_eq_some_iff.1 hh).1⟩

theorem by8_four4 {n : Int} (h1 : 0 ≤ n) (h2 : n ≤ 4294967295) : by8 (Wh.four n) = [.int .u8 (n / 16777216), .int .u8 ((n / 65536) % 256), .int .u8 ((n / 256) % 256), .int .u8 (n % 256)] := by
  rw [Wh.by8_four]
  have : n / 16777216 % 256 = n / 16777216 := Int.emod_eq_of_lt (by omega) (by omega)
  rw [this]
theorem own_more {base : Nat} {w : World} {v : Value} {X Y : List UInt8} {m : Nat} (hm : Y.length = m) (h : w.ownsRow base 5 1 v (X.length + m) (by8 X ++ by8 Y)) : OwnB base w v (X ++ Y) := by
  unfold OwnB
  rw [List.length_append, by8_append, hm]
  exact h

theorem OwnB.base {a b : Nat} {w : World} {v : Value} {l : List UInt8} (h : OwnB b w v l) (hab : a ≤ b) : OwnB a w v l := by
  refine ⟨h.1, ?_⟩
  rcases h.2 with hn | ⟨g, cap, cur, hv, hb, rest⟩
  · exact .inl hn
  · exact .inr ⟨g, cap, cur, hv, by omega, rest⟩
theorem OwnB.nil (a : Nat) (w : World) : OwnB a w (.slice none 0 0) [] := ⟨rfl, .inl ⟨rfl, rfl⟩⟩
theorem OwnB.kp {a : Nat} {w w' : World} {v : Value} {l : List UInt8} {O : Nat → Prop} (h : OwnB a w v l) (k : Kp O w w') (hO : ∀ g, v.ownBlock = some g → ¬ O g) : OwnB a w' v l :=
  owns_keep h fun g hg => k.block g (own_lt h g hg).2 (hO g hg)
theorem OwnB.below {a : Nat} {w w' : World} {v : Value} {l : List UInt8} (h : OwnB a w v l) (k : Below w.heap.size w w') : OwnB a w' v l :=
  owns_keep h fun g hg => k.block g (own_lt h g hg).2

/-- A slice of bytes in some world, as a list: what a conversion to a string hands back. -/
def Reads (w : World) (v : Value) (l : List UInt8) : Prop := ∃ A c, v = .slice A l.length c ∧ l.length ≤ c ∧ Rd w (fun _ => True) A (by8 l)
theorem Reads.keep {w w' : World} {v : Value} {l : List UInt8} (h : Reads w v l) (hs : w.heap.size ≤ w'.heap.size) (hk : ∀ i, i < w.heap.size → w'.heap[i]? = w.heap[i]?) : Reads w' v l := by
  obtain ⟨A, c, e, hc, hr⟩ := h
  exact ⟨A, c, e, hc, hr.keep hs fun i hi _ => hk i hi⟩
theorem Reads.below {w w' : World} {v : Value} {l : List UInt8} (h : Reads w v l) (b : Below w.heap.size w w') : Reads w' v l := h.keep b.size fun i hi => b.block i hi
theorem Reads.drewN {w : World} {v : Value} {l : List UInt8} (h : Reads w v l) (n : Nat) : Reads (w.drewN n) v l := h
theorem Reads.conv {w : World} {v : Value} {l : List UInt8} (h : Reads w v l) : (convert 69 9 v).run Try.prog w = .ok (.string ⟨l.toArray⟩) w := by
  obtain ⟨A, c, rfl, _, hr⟩ := h
  by_cases hl : l = []
  · subst hl
    cases A with
    | none => exact Lib.run_convert_nil_bytes w _ _ 5 c Try.underlying69 Try.underlying5 Try.underlying9
    | some a => exact run_convert_bytes_back w _ _ 5 a c [] Try.underlying69 Try.underlying5 Try.underlying9 fun j hj => by cases hj
  · obtain ⟨ad, rfl, _, _, hc⟩ := hr (by intro e; apply hl; have := by8_len l; rw [e] at this; exact List.eq_nil_of_length_eq_zero this.symm)
    exact run_convert_bytes_back w _ _ 5 ad c l Try.underlying69 Try.underlying5 Try.underlying9 fun j hj => hc j _ (by8_get l j hj)
theorem Reads.own {w : World} {base : Nat} {v : Value} {l : List UInt8} (h : OwnB base w v l) : Reads w v l := by
  obtain ⟨A, c, e, hc, _, hr⟩ := Bs.own h
  exact ⟨A, c, e, hc, hr.mono fun _ _ _ => trivial⟩
theorem Reads.take {w : World} {A : Option Addr} {l : List UInt8} {c n : Nat} (h : Reads w (.slice A l.length c) l) (hn : n ≤ l.length) : Reads w (.slice A n c) (l.take n) := by
  obtain ⟨A', c', e, hc, hr⟩ := h
  injection e with e1 e2 e3
  subst e1 e3
  refine ⟨A, c, by rw [List.length_take, Nat.min_eq_left hn], by rw [List.length_take]; omega, fun hne => ?_⟩
  obtain ⟨ad, e, h1, h2, h3⟩ := hr (by rintro e; apply hne; unfold by8 at *; rw [List.map_eq_nil_iff] at e; rw [e]; simp)
  refine ⟨ad, e, h1, h2, fun j u hu => h3 j u ?_⟩
  unfold by8 at hu ⊢
  rw [List.map_take, List.getElem?_take] at hu
  split at hu
  · exact hu
  · cases hu

namespace Wh
def byt (L : List UInt8) (i : Nat) : Nat := (L.getD i 0).toNat
def nm (L : List UInt8) (i : Nat) : Int := (byt L i : Int) * 16777216 + byt L (i + 1) * 65536 + byt L (i + 2) * 256 + byt L (i + 3)
theorem by_lt (L : List UInt8) (i : Nat) : byt L i < 256 := UInt8.toNat_lt _
theorem nm_bd (L : List UInt8) (i : Nat) : 0 ≤ nm L i ∧ nm L i ≤ 4294967295 := by
  have := by_lt L i
  have := by_lt L (i + 1)
  have := by_lt L (i + 2)
  have := by_lt L (i + 3)
  unfold nm
  omega
theorem wraps_i64 (n : Int) (h₀ : 0 ≤ n) (h₁ : n < 2 ^ 63) : IntKind.i64.wrap n = n := by rw [IntKind.wrap_i64]; omega
theorem join (i : Nat) (x y : Int) (hx₀ : 0 ≤ x) (hx : x % 2 ^ i = 0) (hx₁ : x < 2 ^ 63) (hy₀ : 0 ≤ y) (hy : y < 2 ^ i) (hy₁ : y < 2 ^ 63) : bits .or .i64 x y = x + y :=
  bits_join .i64 63 (by decide) wraps_i64 i x y hx₀ hx hx₁ hy₀ hy hy₁
theorem join4 (c0 c1 c2 c3 : Nat) (k0 : c0 < 256) (k1 : c1 < 256) (k2 : c2 < 256) (k3 : c3 < 256) :
    bits .or .i64 (bits .or .i64 (bits .or .i64 ((c0 : Int) * 16777216) ((c1 : Int) * 65536)) ((c2 : Int) * 256)) (c3 : Int) = (c0 : Int) * 16777216 + c1 * 65536 + c2 * 256 + c3 := by
  rw [join 24 ((c0 : Int) * 16777216) ((c1 : Int) * 65536) (by omega) (by omega) (by omega) (by omega) (by omega) (by omega),
    join 16 ((c0 : Int) * 16777216 + (c1 : Int) * 65536) ((c2 : Int) * 256) (by omega) (by omega) (by omega) (by omega) (by omega) (by omega),
    join 8 ((c0 : Int) * 16777216 + (c1 : Int) * 65536 + (c2 : Int) * 256) (c3 : Int) (by omega) (by omega) (by omega) (by omega) (by omega) (by omega)]
end Wh

/-- Bytes that lie at an address. -/
structure By (w : World) (b off : Nat) (L : List UInt8) : Prop where
  lt : b < w.heap.size
  at_ : ∀ j, j < L.length → w.cell? ⟨b, off + j, none⟩ = some (.int .u8 (Wh.byt L j : Int))
theorem By.below {w w' : World} {b off : Nat} {L : List UInt8} (h : By w b off L) (hb : Below w.heap.size w w') : By w' b off L :=
  ⟨Nat.lt_of_lt_of_le h.lt hb.size, fun j hj => (hb.cell (p := ⟨b, off + j, none⟩) h.lt).trans (h.at_ j hj)⟩



/-- A block that is known whole. -/
def RowAt (w : World) (g : Nat) (t : TypeId) (cs : Array Value) : Prop := w.heap[g]? = some (.cells cs t (0, 0))
section
variable {w w' : World} {g : Nat} {t : TypeId} {cs : Array Value}
theorem RowAt.lt (h : RowAt w g t cs) : g < w.heap.size := (Array.getElem?_eq_some_iff.1 h).1
theorem RowAt.cell (h : RowAt w g t cs) (i : Nat) : w.cell? ⟨g, i, none⟩ = cs[i]? := cell_of_row w g i cs t (0, 0) h
theorem RowAt.frozen (h : RowAt w g t cs) (i : Nat) : w.frozen? ⟨g, i, none⟩ = false := by
  unfold RowAt at h
  simp [World.frozen?, h]
theorem RowAt.set_ (h : RowAt w g t cs) (i : Nat) (u : Value) : RowAt (w.setCell ⟨g, i, none⟩ u) g t (cs.setIfInBounds i u) := by
  unfold RowAt at h ⊢
  simp [World.setCell, Array.getElem?_modify, h]
theorem RowAt.far (h : RowAt w g t cs) {p : Addr} (hp : g ≠ p.block) (u : Value) : RowAt (w.setCell p u) g t cs := (Below.heap_setCell w p u g hp).trans h
theorem RowAt.below (h : RowAt w g t cs) {B : Nat} (hb : Below B w w') (hg : g < B) : RowAt w' g t cs := (hb.block g hg).trans h
theorem RowAt.alloc (h : RowAt w g t cs) (o : Obj) : RowAt (w.alloc o) g t cs := (Below.heap_alloc w o g h.lt).trans h
theorem RowAt.new (w : World) (cs : Array Value) (t : TypeId) : RowAt (w.alloc (.cells cs t)) w.heap.size t cs := heap_alloc_new w _
theorem RowAt.drewN (h : RowAt w g t cs) (n : Nat) : RowAt (w.drewN n) g t cs := h
theorem RowAt.drew (h : RowAt w g t cs) : RowAt w.drew g t cs := h
end

end Go.Proofs.Ytelbabgkpflckaa

namespace Go.Proofs.Ytelbabgkpflckaa
open Go.RowKit
open Me
namespace Pk
open Rx (In)

def iv (l : List Int) : List Value := l.map fun n => .int .i64 n
theorem iv_len (l : List Int) : (iv l).length = l.length := by unfold iv; simp
theorem iv_append (a b : List Int) : iv (a ++ b) = iv a ++ iv b := by unfold iv; simp
theorem iv_get (l : List Int) (j : Nat) (h : j < l.length) : (iv l)[j]? = some (.int .i64 l[j]) := by unfold iv; simp [h]
theorem iv_set (l : List Int) (j : Nat) (n : Int) : (iv l).set j (.int .i64 n) = iv (l.set j n) := by unfold iv; rw [List.map_set]
theorem iv_one (l : List Int) : ∀ u ∈ iv l, u.oneCell' = true := by
  intro u hu
  obtain ⟨n, _, rfl⟩ := List.mem_map.1 hu
  rfl
/-- An instruction's cells. -/
def icell (x : In) : List Value := [.int .i64 x.op, .int .i64 x.x, .int .i64 x.y, .string ⟨x.p.toArray⟩]
def icells (l : List In) : List Value := l.flatMap icell
theorem flat_at {α : Type} (f : α → List Value) (k : Nat) (hf : ∀ a, (f a).length = k) (l : List α) (i j : Nat) (hi : i < l.length) (hj : j < k) : (l.flatMap f)[i * k + j]? = (f l[i])[j]? := by
  induction l generalizing i with
  | nil => cases hi
  | cons a l ih =>
    rw [List.flatMap_cons]
    cases i with
    | zero =>
      rw [Nat.zero_mul, Nat.zero_add, List.getElem?_append_left (by rw [hf]; exact hj)]
      rfl
    | succ i =>
      have e : (i + 1) * k + j = (f a).length + (i * k + j) := by rw [hf, Nat.add_mul, Nat.one_mul]; omega
      rw [e, List.getElem?_append_right (by omega), Nat.add_sub_cancel_left]
      exact ih i (by simpa using hi)
theorem flat_len {α : Type} (f : α → List Value) (k : Nat) (hf : ∀ a, (f a).length = k) (l : List α) : (l.flatMap f).length = l.length * k := by
  induction l with
  | nil => simp
  | cons a l ih => rw [List.flatMap_cons, List.length_append, hf, ih, List.length_cons, Nat.add_mul, Nat.one_mul]; omega
/-- A turn's cells. -/
def tcell (a : Tn) : List Value := [.int .i64 a.head, .bool a.back, .int .i64 a.num, .int .i64 a.off]
def tcells (l : List Tn) : List Value := l.flatMap tcell
theorem tcells_len (l : List Tn) : (tcells l).length = l.length * 4 := flat_len tcell 4 (fun _ => rfl) l
theorem tcells_append (l m : List Tn) : tcells (l ++ m) = tcells l ++ tcells m := by unfold tcells; rw [List.flatMap_append]
theorem tcells_one (a : Tn) : ∀ u ∈ tcell a, u.oneCell' = true := by
  intro u hu
  unfold tcell at hu
  simp at hu
  rcases hu with rfl | rfl | rfl | rfl <;> rfl

/-! ## rows of one's own, side by side -/
structure Ow where
  e : TypeId
  size : Nat
  v : Value
  n : Nat
  xs : List Value
def Ow.at_ (o : Ow) (w : World) (base : Nat) : Prop := w.ownsRow base o.e o.size o.v o.n o.xs
def Apart (a b : Value) : Prop := ∀ g, a.ownBlock = some g → b.ownBlock ≠ some g
structure Own (w : World) (base sb : Nat) (l : List Ow) : Prop where
  each : ∀ o ∈ l, o.at_ w base
  apart : l.Pairwise fun a b => Apart a.v b.v
  ne : ∀ o ∈ l, o.v.ownBlock ≠ some sb
  le : base ≤ sb
theorem Own.keep {w w' : World} {base sb : Nat} {l : List Ow} (h : Own w base sb l) (hk : ∀ g, base ≤ g → g < w.heap.size → g ≠ sb → w'.heap[g]? = w.heap[g]?) : Own w' base sb l :=
  ⟨fun o ho => owns_keep (h.each o ho) fun g hg => hk g (World.ownsRow.lt (h.each o ho) g hg).1 (World.ownsRow.lt (h.each o ho) g hg).2 (fun e => h.ne o ho (by rw [hg, e])), h.apart, h.ne, h.le⟩
theorem Own.step {w w' : World} {base sb : Nat} {l1 l2 : List Ow} {x : Ow} (x' : Ow) (h : Own w base sb (l1 ++ x :: l2)) (hsb : sb < w.heap.size) (hk : ∀ g, base ≤ g → g < w.heap.size → g ≠ sb → x.v.ownBlock ≠ some g → w'.heap[g]? = w.heap[g]?) (hx : x'.at_ w' base)
    (hb : ∀ g, x'.v.ownBlock = some g → x.v.ownBlock = some g ∨ w.heap.size ≤ g) : Own w' base sb (l1 ++ x' :: l2) := by
  have hp := List.pairwise_append.1 h.apart
  have hp2 := List.pairwise_cons.1 hp.2.1
  have hlt : ∀ o ∈ l1 ++ x :: l2, ∀ g, o.v.ownBlock = some g → base ≤ g ∧ g < w.heap.size := fun o ho g hg => World.ownsRow.lt (h.each o ho) g hg
  have m1 : ∀ o ∈ l1, o ∈ l1 ++ x :: l2 := fun o ho => List.mem_append_left _ ho
  have m2 : ∀ o ∈ l2, o ∈ l1 ++ x :: l2 := fun o ho => List.mem_append_right _ (List.mem_cons_of_mem _ ho)
  have m3 : x ∈ l1 ++ x :: l2 := List.mem_append_right _ List.mem_cons_self
  have a1 : ∀ o ∈ l1, ∀ g, o.v.ownBlock = some g → x.v.ownBlock ≠ some g := fun o ho g hg => hp.2.2 o ho x List.mem_cons_self g hg
  have a2 : ∀ o ∈ l2, ∀ g, o.v.ownBlock = some g → x.v.ownBlock ≠ some g := fun o ho g hg e => hp2.1 o ho g e hg
  have keep : ∀ o, o ∈ l1 ++ x :: l2 → (∀ g, o.v.ownBlock = some g → x.v.ownBlock ≠ some g) → o.at_ w' base := fun o ho ha => owns_keep (h.each o ho) fun g hg => hk g (hlt o ho g hg).1 (hlt o ho g hg).2 (fun e => h.ne o ho (by rw [hg, e])) (ha g hg)
  refine ⟨?_, List.pairwise_append.2 ⟨hp.1, List.pairwise_cons.2 ⟨?_, hp2.2⟩, ?_⟩, ?_, h.le⟩
  · intro o ho
    rcases List.mem_append.1 ho with ho | ho
    · exact keep o (m1 o ho) (a1 o ho)
    · rcases List.mem_cons.1 ho with rfl | ho
      · exact hx
      · exact keep o (m2 o ho) (a2 o ho)
  · intro o ho g hg he
    rcases hb g hg with h1 | h1
    · exact a2 o ho g he h1
    · have := (hlt o (m2 o ho) g he).2; omega
  · intro o ho y hy g hg he
    rcases List.mem_cons.1 hy with rfl | hy
    · rcases hb g he with h1 | h1
      · exact a1 o ho g hg h1
      · have := (hlt o (m1 o ho) g hg).2; omega
    · exact hp.2.2 o ho y (List.mem_cons_of_mem _ hy) g hg he
  · intro o ho
    rcases List.mem_append.1 ho with ho | ho
    · exact h.ne o (m1 o ho)
    · rcases List.mem_cons.1 ho with rfl | ho
      · intro e
        rcases hb sb e with h1 | h1
        · exact h.ne x m3 h1
        · omega
      · exact h.ne o (m2 o ho)

/-! ## the search's object -/
structure Cs where
  b0 : Nat
  pa : Option Addr
  pc : Nat
  dv : Value
  bv : Value
  no : Value
  nh : Value
  xo : Value
  xh : Value
  tv : Value
  fv : Value
  L : List In
  t : List UInt8
  wd : Nat
  dn : List Int
  bl : List Int
  nofs : List Int
  nhds : List Int
  xofs : List Int
  xhds : List Int
  ts : List Tn
  fl : List Int
def intT : TypeId := 3
def turnT : TypeId := 107
def oi (v : Value) (l : List Int) : Ow := ⟨intT, 1, v, l.length, iv l⟩
def Cs.cells (c : Cs) : Array Value := #[.slice c.pa c.L.length c.pc, .string ⟨c.t.toArray⟩, c.dv, c.bv, .int .i64 c.wd, c.no, c.nh, .int .i64 c.wd, c.xo, c.xh, c.tv, c.fv]
def Cs.own (c : Cs) : List Ow := [oi c.dv c.dn, oi c.bv c.bl, oi c.no c.nofs, oi c.nh c.nhds, oi c.xo c.xofs, oi c.xh c.xhds, ⟨turnT, 4, c.tv, c.ts.length, tcells c.ts.reverse⟩, oi c.fv c.fl]
/-- The search in memory: sb its own block, what it owns in other blocks from b0 on, the program ahead of them. -/
structure Se (W : World) (sb : Nat) (c : Cs) : Prop where
  row : RowAt W sb 67 c.cells
  own : Own W c.b0 sb c.own
  prog : Rd W (fun i => i < c.b0) c.pa (icells c.L)
  dlen : c.dn.length = c.L.length
  bL : c.L.length ≤ 4096
  bt : c.t.length ≤ 1048576
  bw : c.wd ≤ 4096
  tw : 2 ≤ c.wd
  fit : Fit c.wd c.ts
theorem Rd.lower {W W' : World} {sb : Nat} {A : Option Addr} {xs : List Value} (h : Rd W (fun i => i < sb) A xs) (hb : Below sb W W') : Rd W' (fun i => i < sb) A xs :=
  h.keep hb.size fun i _ hi => hb.block i hi
def exe (dn : List Int) (k : Nat) : Nat → Bool := fun p => decide (dn[p]? = some ((k : Int) + 1))
theorem exe_set (dn : List Int) (k p : Nat) (hp : p < dn.length) : exe (dn.set p ((k : Int) + 1)) k = mark (exe dn k) p := by
  funext q
  unfold exe mark
  rw [List.getElem?_set]
  by_cases e : p = q
  · subst e
    simp [hp]
  · have : ¬ q = p := fun h => e h.symm
    simp [e, this]
theorem own_form {w : World} {base : Nat} {e : TypeId} {size n : Nat} {v : Value} {xs : List Value} (h : w.ownsRow base e size v n xs) : ∃ A c, v = .slice A n c := by
  rcases h.2 with ⟨rfl, h0⟩ | ⟨g', cap, cur, rfl, _⟩
  · exact ⟨none, 0, by rw [h0]⟩
  · exact ⟨_, _, rfl⟩
/-- A row that has something lies in a block. -/
theorem own_some {w : World} {base : Nat} {e : TypeId} {size n : Nat} {v : Value} {xs : List Value} (h : w.ownsRow base e size v n xs) (hn : 0 < n) : ∃ g c, v = .slice (some ⟨g, 0, none⟩) n c ∧ base ≤ g ∧ g < w.heap.size := by
  rcases h.2 with ⟨rfl, h0⟩ | ⟨g', cap, cur, rfl, hb, hg, _⟩
  · omega
  · exact ⟨_, _, rfl, hb, (Array.getElem?_eq_some_iff.1 hg).1⟩
section
variable {W W' : World} {sb : Nat} {c : Cs}
theorem Se.odn (h : Se W sb c) : W.ownsRow c.b0 intT 1 c.dv c.dn.length (iv c.dn) := h.own.each (oi c.dv c.dn) (by unfold Cs.own; simp)
theorem Se.obl (h : Se W sb c) : W.ownsRow c.b0 intT 1 c.bv c.bl.length (iv c.bl) := h.own.each (oi c.bv c.bl) (by unfold Cs.own; simp)
theorem Se.ono (h : Se W sb c) : W.ownsRow c.b0 intT 1 c.no c.nofs.length (iv c.nofs) := h.own.each (oi c.no c.nofs) (by unfold Cs.own; simp)
theorem Se.onh (h : Se W sb c) : W.ownsRow c.b0 intT 1 c.nh c.nhds.length (iv c.nhds) := h.own.each (oi c.nh c.nhds) (by unfold Cs.own; simp)
theorem Se.oxo (h : Se W sb c) : W.ownsRow c.b0 intT 1 c.xo c.xofs.length (iv c.xofs) := h.own.each (oi c.xo c.xofs) (by unfold Cs.own; simp)
theorem Se.oxh (h : Se W sb c) : W.ownsRow c.b0 intT 1 c.xh c.xhds.length (iv c.xhds) := h.own.each (oi c.xh c.xhds) (by unfold Cs.own; simp)
theorem Se.otv (h : Se W sb c) : W.ownsRow c.b0 turnT 4 c.tv c.ts.length (tcells c.ts.reverse) := h.own.each ⟨turnT, 4, c.tv, c.ts.length, tcells c.ts.reverse⟩ (by unfold Cs.own; simp)
theorem Se.ofv (h : Se W sb c) : W.ownsRow c.b0 intT 1 c.fv c.fl.length (iv c.fl) := h.own.each (oi c.fv c.fl) (by unfold Cs.own; simp)
theorem Se.le (h : Se W sb c) : c.b0 ≤ sb := h.own.le
theorem Se.dvne (h : Se W sb c) : c.dv.ownBlock ≠ some sb := h.own.ne (oi c.dv c.dn) (by unfold Cs.own; simp)
theorem Se.bvne (h : Se W sb c) : c.bv.ownBlock ≠ some sb := h.own.ne (oi c.bv c.bl) (by unfold Cs.own; simp)
theorem Se.none_ (h : Se W sb c) : c.no.ownBlock ≠ some sb := h.own.ne (oi c.no c.nofs) (by unfold Cs.own; simp)
theorem Se.nhne (h : Se W sb c) : c.nh.ownBlock ≠ some sb := h.own.ne (oi c.nh c.nhds) (by unfold Cs.own; simp)
theorem Se.xone (h : Se W sb c) : c.xo.ownBlock ≠ some sb := h.own.ne (oi c.xo c.xofs) (by unfold Cs.own; simp)
theorem Se.xhne (h : Se W sb c) : c.xh.ownBlock ≠ some sb := h.own.ne (oi c.xh c.xhds) (by unfold Cs.own; simp)
theorem Se.tvne (h : Se W sb c) : c.tv.ownBlock ≠ some sb := h.own.ne ⟨turnT, 4, c.tv, c.ts.length, tcells c.ts.reverse⟩ (by unfold Cs.own; simp)
theorem Se.fvne (h : Se W sb c) : c.fv.ownBlock ≠ some sb := h.own.ne (oi c.fv c.fl) (by unfold Cs.own; simp)
theorem Se.lt (h : Se W sb c) : sb < W.heap.size := h.row.lt
theorem Se.cell (h : Se W sb c) (i : Nat) : W.cell? ⟨sb, i, none⟩ = c.cells[i]? := h.row.cell i
/-- New blocks change nothing. -/
theorem Se.keep (h : Se W sb c) (hb : Below W.heap.size W W') : Se W' sb c :=
  ⟨h.row.below hb h.lt, h.own.keep fun g _ hg _ => hb.block g hg, h.prog.keep hb.size (fun i hi _ => hb.block i hi), h.dlen, h.bL, h.bt, h.bw, h.tw, h.fit⟩
/-- What was executed is marked. -/
theorem Se.mark (h : Se W sb c) {g cap : Nat} (hv : c.dv = .slice (some ⟨g, 0, none⟩) c.dn.length cap) (p : Nat) (n : Int) : Se (W.setCell ⟨g, p, none⟩ (.int .i64 n)) sb { c with dn := c.dn.set p n } := by
  have ho := h.odn
  have hg := World.ownsRow.lt ho g (by rw [hv]; rfl)
  have hgn : g ≠ sb := fun e => h.dvne (by rw [hv, ← e]; rfl)
  have hb : Below c.b0 W (W.setCell ⟨g, p, none⟩ (.int .i64 n)) := (Below.refl c.b0 W).setCell (by show c.b0 ≤ g; omega) _
  refine ⟨h.row.far (by show sb ≠ g; omega) _, ?_, Rd.lower h.prog hb, by rw [← h.dlen]; simp, h.bL, h.bt, h.bw, h.tw, h.fit⟩
  refine Own.step (l1 := []) (x := oi c.dv c.dn) (oi c.dv (c.dn.set p n)) h.own h.lt ?_ ?_ (fun g h => .inl h)
  · intro g' _ _ _ hne
    refine Below.heap_setCell W _ _ g' ?_
    intro e
    apply hne
    show c.dv.ownBlock = some g'
    rw [hv, e]
    rfl
  · show World.ownsRow _ c.b0 intT 1 c.dv (c.dn.set p n).length (iv (c.dn.set p n))
    rw [List.length_set, ← iv_set, hv]
    rw [hv] at ho
    exact (World.ownsRow.stored ho p (.int .i64 n)).1
end
end Pk
end Go.Proofs.Ytelbabgkpflckaa
