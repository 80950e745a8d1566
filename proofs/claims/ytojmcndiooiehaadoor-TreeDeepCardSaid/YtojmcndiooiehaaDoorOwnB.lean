/-
  BYTES: rows of the call's own, rows that are read, numbers as four bytes; the document's Four and FromFour (chapter 4's), where a seat has them.
-/
import Derived.Test.YtojmcndiooiehaaDoorU8
import Derived.Test.YtojmcndiooiehaaDoorRows
import Derived.Test.YtojmcndiooiehaaDoorMeApp
import Derived.WalkKit
import Derived.WalkSpells
import Derived.WalkLawsBesides
import Derived.Deep.QuietTactic
import Derived.BigQuiet
import Derived.Lib.QuietBelow
import Derived.Lib.Hide
import Derived.IntWalk
import Derived.Deep.RegionHeld3
import Derived.Laws.MakeOwn
import Derived.Laws.BitsLemmas
import Derived.Laws.IdiomStrings
import Derived.Lib.BufferRead
namespace Go.Proofs.YtojmcndiooiehaaDoor
open Go.RowKit Go.Sort
open Me

theorem info_parts {P : Program} {e : TypeId} {z : Value} {a b : Nat} (h : (P.info? e).map (fun i => (i.zero, i.size, i.bytes)) = some (some z, a, b)) : ∃ i, P.info? e = some i ∧ i.zero = some z ∧ i.size = a ∧ i.bytes = b := by
  cases hi : P.info? e with
  | none => rw [hi] at h; cases h
  | some i => rw [hi] at h; simp at h; exact ⟨i, rfl, h.1, h.2.1, h.2.2⟩

namespace Wh
def four (n : Int) : List UInt8 := [UInt8.ofNat ((n / 16777216) % 256).toNat, UInt8.ofNat ((n / 65536) % 256).toNat, UInt8.ofNat ((n / 256) % 256).toNat, UInt8.ofNat (n % 256).toNat]
def fours (ns : List Int) : List UInt8 := ns.flatMap four
theorem fours_len (ns : List Int) : (fours ns).length = 4 * ns.length := by
  induction ns with
  | nil => rfl
  | cons n ns ih => unfold fours at *; simp [List.flatMap_cons, four, ih]; omega
theorem fours_take (ns : List Int) (k : Nat) (h : k < ns.length) : fours (ns.take (k + 1)) = fours (ns.take k) ++ four ns[k] := by
  unfold fours
  rw [List.take_succ_eq_append_getElem h, List.flatMap_append]
  simp
theorem u8of (x : Int) : ((UInt8.ofNat (x % 256).toNat).toNat : Int) = x % 256 := by
  have h1 := Int.emod_nonneg x (by omega : (256 : Int) ≠ 0)
  have h2 := Int.emod_lt_of_pos x (by omega : (0 : Int) < 256)
  rw [UInt8.toNat_ofNat', Nat.mod_eq_of_lt (by omega)]
  omega
theorem by8_four (n : Int) : by8 (four n) = [.int .u8 ((n / 16777216) % 256), .int .u8 ((n / 65536) % 256), .int .u8 ((n / 256) % 256), .int .u8 (n % 256)] := by
  unfold by8 four
  simp only [List.map_cons, List.map_nil, u8of]
end Wh

def OwnB (base : Nat) (w : World) (v : Value) (l : List UInt8) : Prop := w.ownsRow base 5 1 v l.length (by8 l)
/-- What an append leaves. -/
def Laid (base : Nat) (w : World) (v : Value) (l : List UInt8) (e : Ending) (w' : World) : Prop :=
  ∃ v', e = .returned v' ∧ OwnB base w' v' l ∧ Kp (fun b => v.ownBlock = some b) w w' ∧ (∀ g, v'.ownBlock = some g → v.ownBlock = some g ∨ w.heap.size ≤ g)

theorem own_lt {base : Nat} {w : World} {v : Value} {l : List UInt8} (h : OwnB base w v l) : ∀ g, v.ownBlock = some g → base ≤ g ∧ g < w.heap.size := by
  intro g hg
  rcases h.2 with ⟨rfl, _⟩ | ⟨g', cap, cur, rfl, hb, hh, _⟩
  · cases hg
  · have : g' = g := by simpa [Value.ownBlock] using hg
    subst this
    exact ⟨hb, (Array.getElem?_eq_some_iff.1 hh).1⟩

theorem by8_four4 {n : Int} (h1 : 0 ≤ n) (h2 : n ≤ 4294967295) : by8 (Wh.four n) = [.int .u8 (n / 16777216), .int .u8 ((n / 65536) % 256), .int .u8 ((n / 256) % 256), .int .u8 (n % 256)] := by
  rw [Wh.by8_four]
  have : n / 16777216 % 256 = n / 16777216 := Int.emod_eq_of_lt (by omega) (by omega)
  rw [this]
theorem own_more {base : Nat} {w : World} {v : Value} {X Y : List UInt8} {m : Nat} (hm : Y.length = m) (h : w.ownsRow base 5 1 v (X.length + m) (by8 X ++ by8 Y)) : OwnB base w v (X ++ Y) := by
  unfold OwnB
  rw [List.length_append, by8_append, hm]
  exact h

theorem OwnB.base {a b : Nat} {w : World} {v : Value} {l : List UInt8} (h : OwnB b w v l) (hab : a ≤ b) : OwnB a w v l := by
  refine ⟨h.1, ?_⟩
  rcases h.2 with hn | ⟨g, cap, cur, hv, hb, rest⟩
  · exact .inl hn
  · exact .inr ⟨g, cap, cur, hv, by omega, rest⟩
theorem OwnB.nil (a : Nat) (w : World) : OwnB a w (.slice none 0 0) [] := ⟨rfl, .inl ⟨rfl, rfl⟩⟩
theorem OwnB.kp {a : Nat} {w w' : World} {v : Value} {l : List UInt8} {O : Nat → Prop} (h : OwnB a w v l) (k : Kp O w w') (hO : ∀ g, v.ownBlock = some g → ¬ O g) : OwnB a w' v l :=
  owns_keep h fun g hg => k.block g (own_lt h g hg).2 (hO g hg)
theorem OwnB.below {a : Nat} {w w' : World} {v : Value} {l : List UInt8} (h : OwnB a w v l) (k : Below w.heap.size w w') : OwnB a w' v l :=
  owns_keep h fun g hg => k.block g (own_lt h g hg).2

/-- A slice of bytes in some world, as a list: what a conversion to a string hands back. -/
def Reads (w : World) (v : Value) (l : List UInt8) : Prop := ∃ A c, v = .slice A l.length c ∧ l.length ≤ c ∧ Rd w (fun _ => True) A (by8 l)
theorem Reads.keep {w w' : World} {v : Value} {l : List UInt8} (h : Reads w v l) (hs : w.heap.size ≤ w'.heap.size) (hk : ∀ i, i < w.heap.size → w'.heap[i]? = w.heap[i]?) : Reads w' v l := by
  obtain ⟨A, c, e, hc, hr⟩ := h
  exact ⟨A, c, e, hc, hr.keep hs fun i hi _ => hk i hi⟩
theorem Reads.below {w w' : World} {v : Value} {l : List UInt8} (h : Reads w v l) (b : Below w.heap.size w w') : Reads w' v l := h.keep b.size fun i hi => b.block i hi
theorem Reads.drewN {w : World} {v : Value} {l : List UInt8} (h : Reads w v l) (n : Nat) : Reads (w.drewN n) v l := h
theorem Reads.conv {w : World} {v : Value} {l : List UInt8} (h : Reads w v l) : (convert 42 9 v).run Tryd.prog w = .ok (.string ⟨l.toArray⟩) w := by
  obtain ⟨A, c, rfl, _, hr⟩ := h
  by_cases hl : l = []
  · subst hl
    cases A with
    | none => exact Lib.run_convert_nil_bytes w _ _ 5 c Tryd.underlying42 Tryd.underlying5 Tryd.underlying9
    | some a => exact run_convert_bytes_back w _ _ 5 a c [] Tryd.underlying42 Tryd.underlying5 Tryd.underlying9 fun j hj => by cases hj
  · obtain ⟨ad, rfl, _, _, hc⟩ := hr (by intro e; apply hl; have := by8_len l; rw [e] at this; exact List.eq_nil_of_length_eq_zero this.symm)
    exact run_convert_bytes_back w _ _ 5 ad c l Tryd.underlying42 Tryd.underlying5 Tryd.underlying9 fun j hj => hc j _ (by8_get l j hj)
theorem Reads.own {w : World} {base : Nat} {v : Value} {l : List UInt8} (h : OwnB base w v l) : Reads w v l := by
  obtain ⟨A, c, e, hc, _, hr⟩ := Bs.own h
  exact ⟨A, c, e, hc, hr.mono fun _ _ _ => trivial⟩
theorem Reads.take {w : World} {A : Option Addr} {l : List UInt8} {c n : Nat} (h : Reads w (.slice A l.length c) l) (hn : n ≤ l.length) : Reads w (.slice A n c) (l.take n) := by
  obtain ⟨A', c', e, hc, hr⟩ := h
  injection e with e1 e2 e3
  subst e1 e3
  refine ⟨A, c, by rw [List.length_take, Nat.min_eq_left hn], by rw [List.length_take]; omega, fun hne => ?_⟩
  obtain ⟨ad, e, h1, h2, h3⟩ := hr (by rintro e; apply hne; unfold by8 at *; rw [List.map_eq_nil_iff] at e; rw [e]; simp)
  refine ⟨ad, e, h1, h2, fun j u hu => h3 j u ?_⟩
  unfold by8 at hu ⊢
  rw [List.map_take, List.getElem?_take] at hu
  split at hu
  · exact hu
  · cases hu

namespace Wh
def byt (L : List UInt8) (i : Nat) : Nat := (L.getD i 0).toNat
def nm (L : List UInt8) (i : Nat) : Int := (byt L i : Int) * 16777216 + byt L (i + 1) * 65536 + byt L (i + 2) * 256 + byt L (i + 3)
theorem by_lt (L : List UInt8) (i : Nat) : byt L i < 256 := UInt8.toNat_lt _
theorem nm_bd (L : List UInt8) (i : Nat) : 0 ≤ nm L i ∧ nm L i ≤ 4294967295 := by
  have := by_lt L i
  have := by_lt L (i + 1)
  have := by_lt L (i + 2)
  have := by_lt L (i + 3)
  unfold nm
  omega
theorem wraps_i64 (n : Int) (h₀ : 0 ≤ n) (h₁ : n < 2 ^ 63) : IntKind.i64.wrap n = n := by rw [IntKind.wrap_i64]; omega
theorem join (i : Nat) (x y : Int) (hx₀ : 0 ≤ x) (hx : x % 2 ^ i = 0) (hx₁ : x < 2 ^ 63) (hy₀ : 0 ≤ y) (hy : y < 2 ^ i) (hy₁ : y < 2 ^ 63) : bits .or .i64 x y = x + y :=
  bits_join .i64 63 (by decide) wraps_i64 i x y hx₀ hx hx₁ hy₀ hy hy₁
theorem join4 (c0 c1 c2 c3 : Nat) (k0 : c0 < 256) (k1 : c1 < 256) (k2 : c2 < 256) (k3 : c3 < 256) :
    bits .or .i64 (bits .or .i64 (bits .or .i64 ((c0 : Int) * 16777216) ((c1 : Int) * 65536)) ((c2 : Int) * 256)) (c3 : Int) = (c0 : Int) * 16777216 + c1 * 65536 + c2 * 256 + c3 := by
  rw [join 24 ((c0 : Int) * 16777216) ((c1 : Int) * 65536) (by omega) (by omega) (by omega) (by omega) (by omega) (by omega),
    join 16 ((c0 : Int) * 16777216 + (c1 : Int) * 65536) ((c2 : Int) * 256) (by omega) (by omega) (by omega) (by omega) (by omega) (by omega),
    join 8 ((c0 : Int) * 16777216 + (c1 : Int) * 65536 + (c2 : Int) * 256) (c3 : Int) (by omega) (by omega) (by omega) (by omega) (by omega) (by omega)]
end Wh

/-- Bytes that lie at an address. -/
structure By (w : World) (b off : Nat) (L : List UInt8) : Prop where
  lt : b < w.heap.size
  at_ : ∀ j, j < L.length → w.cell? ⟨b, off + j, none⟩ = some (.int .u8 (Wh.byt L j : Int))
theorem By.below {w w' : World} {b off : Nat} {L : List UInt8} (h : By w b off L) (hb : Below w.heap.size w w') : By w' b off L :=
  ⟨Nat.lt_of_lt_of_le h.lt hb.size, fun j hj => (hb.cell (p := ⟨b, off + j, none⟩) h.lt).trans (h.at_ j hj)⟩



/-- A block that is known whole. -/
def RowAt (w : World) (g : Nat) (t : TypeId) (cs : Array Value) : Prop := w.heap[g]? = some (.cells cs t (0, 0))
section
variable {w w' : World} {g : Nat} {t : TypeId} {cs : Array Value}
theorem RowAt.lt (h : RowAt w g t cs) : g < w.heap.size := (Array.getElem?_eq_some_iff.1 h).1
theorem RowAt.cell (h : RowAt w g t cs) (i : Nat) : w.cell? ⟨g, i, none⟩ = cs[i]? := cell_of_row w g i cs t (0, 0) h
theorem RowAt.frozen (h : RowAt w g t cs) (i : Nat) : w.frozen? ⟨g, i, none⟩ = false := by
  unfold RowAt at h
  simp [World.frozen?, h]
theorem RowAt.set_ (h : RowAt w g t cs) (i : Nat) (u : Value) : RowAt (w.setCell ⟨g, i, none⟩ u) g t (cs.setIfInBounds i u) := by
  unfold RowAt at h ⊢
  simp [World.setCell, Array.getElem?_modify, h]
theorem RowAt.far (h : RowAt w g t cs) {p : Addr} (hp : g ≠ p.block) (u : Value) : RowAt (w.setCell p u) g t cs := (Below.heap_setCell w p u g hp).trans h
theorem RowAt.below (h : RowAt w g t cs) {B : Nat} (hb : Below B w w') (hg : g < B) : RowAt w' g t cs := (hb.block g hg).trans h
theorem RowAt.alloc (h : RowAt w g t cs) (o : Obj) : RowAt (w.alloc o) g t cs := (Below.heap_alloc w o g h.lt).trans h
theorem RowAt.new (w : World) (cs : Array Value) (t : TypeId) : RowAt (w.alloc (.cells cs t)) w.heap.size t cs := heap_alloc_new w _
theorem RowAt.drewN (h : RowAt w g t cs) (n : Nat) : RowAt (w.drewN n) g t cs := h
theorem RowAt.drew (h : RowAt w g t cs) : RowAt w.drew g t cs := h
end

end Go.Proofs.YtojmcndiooiehaaDoor
