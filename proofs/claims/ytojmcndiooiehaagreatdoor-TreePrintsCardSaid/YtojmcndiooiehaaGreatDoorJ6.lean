/-
  OwnB: BYTES: rows of the call's own, rows that are read, numbers as four bytes; the document's Four and FromFour (chapter 4's), where a seat has them.
  LxLib: CONTRACTS: what package lex calls of package strings, in lists of bytes.
  LxByte: CONTRACTS: chapter 14: which bytes may be in a word, on both sides; Ident.
-/
import Derived.Test.YtojmcndiooiehaaGreatDoorJ4
import Derived.Test.YtojmcndiooiehaaGreatDoorRows
import Derived.Test.YtojmcndiooiehaaGreatDoorJ5
import Derived.WalkKit
import Derived.WalkSpells
import Derived.WalkLawsBesides
import Derived.Deep.QuietTactic
import Derived.BigQuiet
import Derived.Lib.QuietBelow
import Derived.Lib.Hide
import Derived.IntWalk
import Derived.Deep.RegionHeld3
import Derived.Laws.MakeOwn
import Derived.Laws.BitsLemmas
import Derived.Laws.IdiomStrings
import Derived.Lib.BufferRead
import Derived.Test.YtojmcndiooiehaaGreatDoorJ2
import Derived.Laws.Strings3
import Derived.Lib.IndexBytes

set_option linter.unusedSimpArgs false
set_option linter.unusedVariables false
namespace Go.Proofs.YtojmcndiooiehaaGreatDoor
open Go.RowKit Go.Sort
open Me

theorem info_parts {P : Program} {e : TypeId} {z : Value} {a b : Nat} (h : (P.info? e).map (fun i => (i.zero, i.size, i.bytes)) = some (some z, a, b)) : ∃ i, P.info? e = some i ∧ i.zero = some z ∧ i.size = a ∧ i.bytes = b := by
  cases hi : P.info? e with
  | none => rw [hi] at h; cases h
  | some i => rw [hi] at h; simp at h; exact ⟨i, rfl, h.1, h.2.1, h.2.2⟩

namespace Wh
def four (n : Int) : List UInt8 := [UInt8.ofNat ((n / 16777216) % 256).toNat, UInt8.ofNat ((n / 65536) % 256).toNat, UInt8.ofNat ((n / 256) % 256).toNat, UInt8.ofNat (n % 256).toNat]
def fours (ns : List Int) : List UInt8 := ns.flatMap four
theorem fours_len (ns : List Int) : (fours ns).length = 4 * ns.length := by
  induction ns with
  | nil => rfl
  | cons n ns ih => unfold fours at *; simp [List.flatMap_cons, four, ih]; omega
theorem fours_take (ns : List Int) (k : Nat) (h : k < ns.length) : fours (ns.take (k + 1)) = fours (ns.take k) ++ four ns[k] := by
  unfold fours
  rw [List.take_succ_eq_append_getElem h, List.flatMap_append]
  simp
theorem u8of (x : Int) : ((UInt8.ofNat (x % 256).toNat).toNat : Int) = x % 256 := by
  have h1 := Int.emod_nonneg x (by omega : (256 : Int) ≠ 0)
  have h2 := Int.emod_lt_of_pos x (by omega : (0 : Int) < 256)
  rw [UInt8.toNat_ofNat', Nat.mod_eq_of_lt (by omega)]
  omega
theorem by8_four (n : Int) : by8 (four n) = [.int .u8 ((n / 16777216) % 256), .int .u8 ((n / 65536) % 256), .int .u8 ((n / 256) % 256), .int .u8 (n % 256)] := by
  unfold by8 four
  simp only [List.map_cons, List.map_nil, u8of]
end Wh

def OwnB (base : Nat) (w : World) (v : Value) (l : List UInt8) : Prop := w.ownsRow base 5 1 v l.length (by8 l)
/-- What an append leaves. -/
def Laid (base : Nat) (w : World) (v : Value) (l : List UInt8) (e : Ending) (w' : World) : Prop :=
  ∃ v', e = .returned v' ∧ OwnB base w' v' l ∧ Kp (fun b => v.ownBlock = some b) w w' ∧ (∀ g, v'.ownBlock = some g → v.ownBlock = some g ∨ w.heap.size ≤ g)

theorem own_lt {base : Nat} {w : World} {v : Value} {l : List UInt8} (h : OwnB base w v l) : ∀ g, v.ownBlock = some g → base ≤ g ∧ g < w.heap.size := by
  intro g hg
  rcases h.2 with ⟨rfl, _⟩ | ⟨g', cap, cur, rfl, hb, hh, _⟩
  · cases hg
  · have : g' = g := by simpa [Value.ownBlock] using hg
    subst this
    exact ⟨hb, (Array.getElem?_eq_some_iff.1 hh).1⟩

theorem by8_four4 {n : Int} (h1 : 0 ≤ n) (h2 : n ≤ 4294967295) : by8 (Wh.four n) = [.int .u8 (n / 16777216), .int .u8 ((n / 65536) % 256), .int .u8 ((n / 256) % 256), .int .u8 (n % 256)] := by
  rw [Wh.by8_four]
  have : n / 16777216 % 256 = n / 16777216 := Int.emod_eq_of_lt (by omega) (by omega)
  rw [this]
theorem own_more {base : Nat} {w : World} {v : Value} {X Y : List UInt8} {m : Nat} (hm : Y.length = m) (h : w.ownsRow base 5 1 v (X.length + m) (by8 X ++ by8 Y)) : OwnB base w v (X ++ Y) := by
  unfold OwnB
  rw [List.length_append, by8_append, hm]
  exact h

theorem OwnB.base {a b : Nat} {w : World} {v : Value} {l : List UInt8} (h : OwnB b w v l) (hab : a ≤ b) : OwnB a w v l := by
  refine ⟨h.1, ?_⟩
  rcases h.2 with hn | ⟨g, cap, cur, hv, hb, rest⟩
  · exact .inl hn
  · exact .inr ⟨g, cap, cur, hv, by omega, rest⟩
theorem OwnB.nil (a : Nat) (w : World) : OwnB a w (.slice none 0 0) [] := ⟨rfl, .inl ⟨rfl, rfl⟩⟩
theorem OwnB.kp {a : Nat} {w w' : World} {v : Value} {l : List UInt8} {O : Nat → Prop} (h : OwnB a w v l) (k : Kp O w w') (hO : ∀ g, v.ownBlock = some g → ¬ O g) : OwnB a w' v l :=
  owns_keep h fun g hg => k.block g (own_lt h g hg).2 (hO g hg)
theorem OwnB.below {a : Nat} {w w' : World} {v : Value} {l : List UInt8} (h : OwnB a w v l) (k : Below w.heap.size w w') : OwnB a w' v l :=
  owns_keep h fun g hg => k.block g (own_lt h g hg).2

/-- A slice of bytes in some world, as a list: what a conversion to a string hands back. -/
def Reads (w : World) (v : Value) (l : List UInt8) : Prop := ∃ A c, v = .slice A l.length c ∧ l.length ≤ c ∧ Rd w (fun _ => True) A (by8 l)
theorem Reads.keep {w w' : World} {v : Value} {l : List UInt8} (h : Reads w v l) (hs : w.heap.size ≤ w'.heap.size) (hk : ∀ i, i < w.heap.size → w'.heap[i]? = w.heap[i]?) : Reads w' v l := by
  obtain ⟨A, c, e, hc, hr⟩ := h
  exact ⟨A, c, e, hc, hr.keep hs fun i hi _ => hk i hi⟩
theorem Reads.below {w w' : World} {v : Value} {l : List UInt8} (h : Reads w v l) (b : Below w.heap.size w w') : Reads w' v l := h.keep b.size fun i hi => b.block i hi
theorem Reads.drewN {w : World} {v : Value} {l : List UInt8} (h : Reads w v l) (n : Nat) : Reads (w.drewN n) v l := h
theorem Reads.conv {w : World} {v : Value} {l : List UInt8} (h : Reads w v l) : (convert 52 9 v).run Tryz.prog w = .ok (.string ⟨l.toArray⟩) w := by
  obtain ⟨A, c, rfl, _, hr⟩ := h
  by_cases hl : l = []
  · subst hl
    cases A with
    | none => exact Lib.run_convert_nil_bytes w _ _ 5 c Tryz.underlying52 Tryz.underlying5 Tryz.underlying9
    | some a => exact run_convert_bytes_back w _ _ 5 a c [] Tryz.underlying52 Tryz.underlying5 Tryz.underlying9 fun j hj => by cases hj
  · obtain ⟨ad, rfl, _, _, hc⟩ := hr (by intro e; apply hl; have := by8_len l; rw [e] at this; exact List.eq_nil_of_length_eq_zero this.symm)
    exact run_convert_bytes_back w _ _ 5 ad c l Tryz.underlying52 Tryz.underlying5 Tryz.underlying9 fun j hj => hc j _ (by8_get l j hj)
theorem Reads.own {w : World} {base : Nat} {v : Value} {l : List UInt8} (h : OwnB base w v l) : Reads w v l := by
  obtain ⟨A, c, e, hc, _, hr⟩ := Bs.own h
  exact ⟨A, c, e, hc, hr.mono fun _ _ _ => trivial⟩
theorem Reads.take {w : World} {A : Option Addr} {l : List UInt8} {c n : Nat} (h : Reads w (.slice A l.length c) l) (hn : n ≤ l.length) : Reads w (.slice A n c) (l.take n) := by
  obtain ⟨A', c', e, hc, hr⟩ := h
  injection e with e1 e2 e3
  subst e1 e3
  refine ⟨A, c, by rw [List.length_take, Nat.min_eq_left hn], by rw [List.length_take]; omega, fun hne => ?_⟩
  obtain ⟨ad, e, h1, h2, h3⟩ := hr (by rintro e; apply hne; unfold by8 at *; rw [List.map_eq_nil_iff] at e; rw [e]; simp)
  refine ⟨ad, e, h1, h2, fun j u hu => h3 j u ?_⟩
  unfold by8 at hu ⊢
  rw [List.map_take, List.getElem?_take] at hu
  split at hu
  · exact hu
  · cases hu

namespace Wh
def byt (L : List UInt8) (i : Nat) : Nat := (L.getD i 0).toNat
def nm (L : List UInt8) (i : Nat) : Int := (byt L i : Int) * 16777216 + byt L (i + 1) * 65536 + byt L (i + 2) * 256 + byt L (i + 3)
theorem by_lt (L : List UInt8) (i : Nat) : byt L i < 256 := UInt8.toNat_lt _
theorem nm_bd (L : List UInt8) (i : Nat) : 0 ≤ nm L i ∧ nm L i ≤ 4294967295 := by
  have := by_lt L i
  have := by_lt L (i + 1)
  have := by_lt L (i + 2)
  have := by_lt L (i + 3)
  unfold nm
  omega
theorem wraps_i64 (n : Int) (h₀ : 0 ≤ n) (h₁ : n < 2 ^ 63) : IntKind.i64.wrap n = n := by rw [IntKind.wrap_i64]; omega
theorem join (i : Nat) (x y : Int) (hx₀ : 0 ≤ x) (hx : x % 2 ^ i = 0) (hx₁ : x < 2 ^ 63) (hy₀ : 0 ≤ y) (hy : y < 2 ^ i) (hy₁ : y < 2 ^ 63) : bits .or .i64 x y = x + y :=
  bits_join .i64 63 (by decide) wraps_i64 i x y hx₀ hx hx₁ hy₀ hy hy₁
theorem join4 (c0 c1 c2 c3 : Nat) (k0 : c0 < 256) (k1 : c1 < 256) (k2 : c2 < 256) (k3 : c3 < 256) :
    bits .or .i64 (bits .or .i64 (bits .or .i64 ((c0 : Int) * 16777216) ((c1 : Int) * 65536)) ((c2 : Int) * 256)) (c3 : Int) = (c0 : Int) * 16777216 + c1 * 65536 + c2 * 256 + c3 := by
  rw [join 24 ((c0 : Int) * 16777216) ((c1 : Int) * 65536) (by omega) (by omega) (by omega) (by omega) (by omega) (by omega),
    join 16 ((c0 : Int) * 16777216 + (c1 : Int) * 65536) ((c2 : Int) * 256) (by omega) (by omega) (by omega) (by omega) (by omega) (by omega),
    join 8 ((c0 : Int) * 16777216 + (c1 : Int) * 65536 + (c2 : Int) * 256) (c3 : Int) (by omega) (by omega) (by omega) (by omega) (by omega) (by omega)]
end Wh

/-- Bytes that lie at an address. -/
structure By (w : World) (b off : Nat) (L : List UInt8) : Prop where
  lt : b < w.heap.size
  at_ : ∀ j, j < L.length → w.cell? ⟨b, off + j, none⟩ = some (.int .u8 (Wh.byt L j : Int))
theorem By.below {w w' : World} {b off : Nat} {L : List UInt8} (h : By w b off L) (hb : Below w.heap.size w w') : By w' b off L :=
  ⟨Nat.lt_of_lt_of_le h.lt hb.size, fun j hj => (hb.cell (p := ⟨b, off + j, none⟩) h.lt).trans (h.at_ j hj)⟩



/-- A block that is known whole. -/
def RowAt (w : World) (g : Nat) (t : TypeId) (cs : Array Value) : Prop := w.heap[g]? = some (.cells cs t (0, 0))
section
variable {w w' : World} {g : Nat} {t : TypeId} {cs : Array Value}
theorem RowAt.lt (h : RowAt w g t cs) : g < w.heap.size := (Array.getElem?_eq_some_iff.1 h).1
theorem RowAt.cell (h : RowAt w g t cs) (i : Nat) : w.cell? ⟨g, i, none⟩ = cs[i]? := cell_of_row w g i cs t (0, 0) h
theorem RowAt.frozen (h : RowAt w g t cs) (i : Nat) : w.frozen? ⟨g, i, none⟩ = false := by
  unfold RowAt at h
  simp [World.frozen?, h]
theorem RowAt.set_ (h : RowAt w g t cs) (i : Nat) (u : Value) : RowAt (w.setCell ⟨g, i, none⟩ u) g t (cs.setIfInBounds i u) := by
  unfold RowAt at h ⊢
  simp [World.setCell, Array.getElem?_modify, h]
theorem RowAt.far (h : RowAt w g t cs) {p : Addr} (hp : g ≠ p.block) (u : Value) : RowAt (w.setCell p u) g t cs := (Below.heap_setCell w p u g hp).trans h
theorem RowAt.below (h : RowAt w g t cs) {B : Nat} (hb : Below B w w') (hg : g < B) : RowAt w' g t cs := (hb.block g hg).trans h
theorem RowAt.alloc (h : RowAt w g t cs) (o : Obj) : RowAt (w.alloc o) g t cs := (Below.heap_alloc w o g h.lt).trans h
theorem RowAt.new (w : World) (cs : Array Value) (t : TypeId) : RowAt (w.alloc (.cells cs t)) w.heap.size t cs := heap_alloc_new w _
theorem RowAt.drewN (h : RowAt w g t cs) (n : Nat) : RowAt (w.drewN n) g t cs := h
theorem RowAt.drew (h : RowAt w g t cs) : RowAt w.drew g t cs := h
end

end Go.Proofs.YtojmcndiooiehaaGreatDoor

namespace Go.Proofs.YtojmcndiooiehaaGreatDoor
open Go.RowKit
open Me

namespace Lx
theorem ret_bool {a b : Bool} (h : a = b) : Ending.returned (.bool a) = .returned (.bool b) := by rw [h]
theorem index_idx (q : UInt8) (l : List UInt8) : Lib.indexByte l q = if idx q l < l.length then (idx q l : Int) else -1 := by
  induction l with
  | nil => rfl
  | cons a t ih =>
    have h1 : Lib.indexByte (a :: t) q = if (a == q) = true then 0 else if (Lib.indexByte t q == -1) = true then -1 else Lib.indexByte t q + 1 := rfl
    have h2 : idx q (a :: t) = if (a == q) = true then 0 else idx q t + 1 := by
      unfold idx
      rw [List.takeWhile_cons]
      by_cases h : a = q
      · subst h; simp
      · simp [h]
    rw [h1, h2, ih]
    have hl : (a :: t).length = t.length + 1 := rfl
    rw [hl]
    by_cases h : (a == q) = true
    · simp only [h, if_true]
      simp
    · rw [if_neg h, if_neg h]
      by_cases h3 : idx q t < t.length
      · have h4 : ¬ (((idx q t : Int) == -1) = true) := by simp
        rw [if_pos h3, if_neg h4, if_pos (Nat.succ_lt_succ h3)]
        simp
      · rw [if_neg h3, if_pos (show ((-1 : Int) == -1) = true from rfl), if_neg (fun e => h3 (Nat.lt_of_succ_lt_succ e))]
theorem index_has (l : List UInt8) (c : UInt8) : decide (0 ≤ Lib.indexByte l c) = l.contains c := by
  induction l with
  | nil => rfl
  | cons a t ih =>
    have h1 : Lib.indexByte (a :: t) c = if (a == c) = true then 0 else if (Lib.indexByte t c == -1) = true then -1 else Lib.indexByte t c + 1 := rfl
    rw [h1]
    have h0 := Lib.indexByte_ge t c
    by_cases h : (a == c) = true
    · rw [if_pos h]
      have : a = c := by simpa using h
      subst this
      simp
    · rw [if_neg h]
      have h5 : (a :: t).contains c = t.contains c := by
        rw [List.contains_cons]
        have : (c == a) = false := by
          rw [Bool.eq_false_iff]; intro e; exact h (by simpa using (by simpa using e : c = a).symm)
        rw [this, Bool.false_or]
      rw [h5, ← ih]
      by_cases h3 : (Lib.indexByte t c == -1) = true
      · rw [if_pos h3]
        have : Lib.indexByte t c = -1 := by simpa using h3
        rw [this]
      · rw [if_neg h3]
        have : ¬ Lib.indexByte t c = -1 := by simpa using h3
        have e1 : 0 ≤ Lib.indexByte t c := by omega
        rw [decide_eq_true e1, decide_eq_true (show 0 ≤ Lib.indexByte t c + 1 by omega)]
theorem trim_skip (l : List UInt8) : Lib.trimLeftS l [32, 9] = skipB l := by
  unfold Lib.trimLeftS skipB
  congr 1
  funext c
  unfold blank
  simp [List.contains_cons]
  rfl
end Lx

theorem trimLeft_blanks (l : List UInt8) (w : World) :
    Calls Tryz.prog 50 #[.string ⟨l.toArray⟩, .string ⟨#[32, 9]⟩] w fun e w' => e = .returned (.string ⟨(Lx.skipB l).toArray⟩) ∧ Below w.heap.size w w' := by
  refine (Tryz.strings_TrimLeft_laid ⟨l.toArray⟩ ⟨#[32, 9]⟩ w (by decide) (ascii_of_all (by decide))).mono ?_
  rintro e w' ⟨rfl, hb⟩
  refine ⟨?_, hb⟩
  show Ending.returned (.string ⟨(Lib.trimLeftS l.toArray.toList [32, 9]).toArray⟩) = _
  rw [List.toList_toArray, Lx.trim_skip]
theorem cutPrefix_one (l : List UInt8) (c : UInt8) (w : World) :
    Calls Tryz.prog 78 #[.string ⟨l.toArray⟩, .string ⟨#[c]⟩] w fun e w' => e = .returned (.tuple #[.string ⟨(Lx.cutH c l).toArray⟩, .bool (Lx.hdIs c l)]) ∧ w' = w := by
  refine (Tryz.strings_CutPrefix ⟨l.toArray⟩ ⟨#[c]⟩ w).mono ?_
  rintro e w' ⟨rfl, hw⟩
  refine ⟨?_, hw⟩
  show Ending.returned (.tuple #[.string ⟨(Lib.trimPrefix l.toArray.toList [c]).toArray⟩, .bool (Lib.hasPrefix l.toArray.toList [c])]) = _
  rw [List.toList_toArray]
  have h1 : Lib.hasPrefix l [c] = Lx.hdIs c l := by
    cases l with
    | nil => rfl
    | cons b r =>
      show (c == b && List.isPrefixOf [] r) = decide (b = c)
      rw [List.isPrefixOf_nil_left, Bool.and_true]
      by_cases h : b = c
      · subst h; simp
      · rw [decide_eq_false h]; simpa using fun e => h e.symm
  have h2 : Lib.trimPrefix l [c] = Lx.cutH c l := by
    unfold Lib.trimPrefix Lx.cutH
    rw [h1]
    rfl
  rw [h1, h2]
theorem index_one (l : List UInt8) (q : UInt8) (w : World) :
    Calls Tryz.prog 79 #[.string ⟨l.toArray⟩, .string ⟨#[q]⟩] w fun e w' => e = .returned (.int .i64 (if Lx.idx q l < l.length then (Lx.idx q l : Int) else -1)) ∧ w' = w := by
  refine (Tryz.strings_Index_one ⟨l.toArray⟩ q w).mono ?_
  rintro e w' ⟨rfl, hw⟩
  refine ⟨?_, hw⟩
  show Ending.returned (.int .i64 (Lib.indexByte l.toArray.toList q)) = _
  rw [List.toList_toArray, Lx.index_idx]
theorem contains_one (l : List UInt8) (q : UInt8) (w : World) :
    Calls Tryz.prog 63 #[.string ⟨l.toArray⟩, .string ⟨#[q]⟩] w fun e w' => e = .returned (.bool (l.contains q)) ∧ w' = w := by
  refine (Tryz.strings_Contains_one ⟨l.toArray⟩ q w).mono ?_
  rintro e w' ⟨rfl, hw⟩
  refine ⟨?_, hw⟩
  show Ending.returned (.bool (decide (0 ≤ Lib.indexByte l.toArray.toList q))) = _
  rw [List.toList_toArray, Lx.index_has]
theorem indexByte_at (l : List UInt8) (c : UInt8) (w : World) :
    Calls Tryz.prog 96 #[.string ⟨l.toArray⟩, .int .u8 (c.toNat : Int)] w fun e w' => e = .returned (.int .i64 (Lib.indexByte l c)) ∧ w' = w := by
  refine (Tryz.strings_IndexByte ⟨l.toArray⟩ (c.toNat : Int) w).mono ?_
  rintro e w' ⟨rfl, hw⟩
  refine ⟨?_, hw⟩
  show Ending.returned (.int .i64 (Lib.indexByte l.toArray.toList (c.toNat : Int).toNat.toUInt8)) = _
  rw [List.toList_toArray, Int.toNat_natCast]
  have : c.toNat.toUInt8 = c := by simp
  rw [this]

set_option maxHeartbeats 400000 in
theorem lclone_str (l : List UInt8) (hl : l.length ≤ 4294967280) (w : World) :
    Calls Tryz.prog 95 #[.string ⟨l.toArray⟩] w fun e w' => e = .returned (.string ⟨l.toArray⟩) ∧ Below w.heap.size w w' := by
  have H := Lib.hid (fun W => Tryz.stringslite_Clone ⟨l.toArray⟩ W (by show l.toArray.size ≤ _; simp; omega))
  go_enter Tryz.func95, Tryz.ntmps95
  go_wp2_with (go_at_call 112; go_must (refine (H.out _).mono ?_; rintro e w' ⟨rfl, hb⟩))
  go_ret
  exact ⟨rfl, hb⟩
end Go.Proofs.YtojmcndiooiehaaGreatDoor

namespace Go.Proofs.YtojmcndiooiehaaGreatDoor
open Go.RowKit
open Me

namespace Lx
/-- What may be in a name (chapter 8). -/
def isB (c : UInt8) : Bool := isI c || ([45, 58, 35, 37, 64, 61] : List UInt8).contains c
theorem inW_B (c : UInt8) : inW c = (isB c || extra2.contains c) := by
  unfold inW isB
  rw [Bool.or_assoc]
  congr 1
  unfold extra extra2
  simp only [List.contains_cons, List.contains_nil, Bool.or_false]
  simp only [Bool.or_assoc]
/-- A byte of a text. -/
theorem byte_at {s : List UInt8} {i : Nat} {c : UInt8} (h : s[i]? = some c) : ∃ z : i < (⟨s.toArray⟩ : ByteArray).size, (⟨s.toArray⟩ : ByteArray)[i]'z = c := by
  obtain ⟨hi, hc⟩ := List.getElem?_eq_some_iff.1 h
  have zl : (⟨s.toArray⟩ : ByteArray).size = s.length := by show s.toArray.size = _; simp
  exact ⟨by omega, hc⟩
theorem eq_nat (c k : UInt8) : (c == k) = decide (c.toNat = k.toNat) := by
  by_cases h : c = k
  · subst h; simp
  · rw [decide_eq_false (fun e => h (UInt8.toNat_inj.1 e))]
    simpa using h
end Lx

set_option maxHeartbeats 1000000 in
theorem isLetter_any (c : UInt8) (w : World) :
    Calls Tryz.prog 67 #[.int .u8 (c.toNat : Int)] w fun e w' => e = .returned (.bool (Lx.isL c)) ∧ w = w' := by
  have HQ : Hid (Lx.isL c = ((decide (65 ≤ c.toNat) && decide (c.toNat ≤ 90)) || (decide (97 ≤ c.toNat) && decide (c.toNat ≤ 122)))) := Lib.hid rfl
  generalize Lx.isL c = R at *
  generalize c.toNat = n at *
  go_enter Tryz.func67, Tryz.ntmps67
  go_wp2_with fail
  all_goals
    go_ret
    refine ⟨Lx.ret_bool ?_, rfl⟩
    rw [HQ.out, Bool.eq_iff_iff]
    simp
    try omega

set_option maxHeartbeats 1000000 in
theorem isOfIdent_any (c : UInt8) (w : World) :
    Calls Tryz.prog 66 #[.int .u8 (c.toNat : Int)] w fun e w' => e = .returned (.bool (Lx.isI c)) ∧ w = w' := by
  have HQ : Hid (Lx.isI c = (Lx.isL c || (decide (48 ≤ c.toNat) && decide (c.toNat ≤ 57)) || decide (c.toNat = 95))) := Lib.hid (by unfold Lx.isI; rw [Lx.eq_nat]; rfl)
  have HL := Lib.hid fun W => isLetter_any c W
  generalize Lx.isI c = R at *
  generalize Lx.isL c = L at *
  generalize c.toNat = n at *
  cases L
  all_goals
    go_enter Tryz.func66, Tryz.ntmps66
    go_wp2_with (go_at_call 67; go_must (refine (HL.out _).mono ?_; rintro e w2 ⟨rfl, rfl⟩))
    all_goals
      go_ret
      refine ⟨Lx.ret_bool ?_, rfl⟩
      rw [HQ.out, Bool.eq_iff_iff]
      simp
      try omega

set_option maxHeartbeats 2000000 in
theorem lrefByte_any (c : UInt8) (w : World) :
    Calls Tryz.prog 84 #[.int .u8 (c.toNat : Int)] w fun e w' => e = .returned (.bool (Lx.isB c)) ∧ w = w' := by
  have HQ : Hid (Lx.isB c = ((((decide (65 ≤ c.toNat) && decide (c.toNat ≤ 90)) || (decide (97 ≤ c.toNat) && decide (c.toNat ≤ 122))) || (decide (48 ≤ c.toNat) && decide (c.toNat ≤ 57)) || decide (c.toNat = 95)) || (decide (c.toNat = 45) || (decide (c.toNat = 58) || (decide (c.toNat = 35) || (decide (c.toNat = 37) || (decide (c.toNat = 64) || decide (c.toNat = 61)))))))) := Lib.hid (by
    unfold Lx.isB Lx.isI Lx.isL
    simp only [List.contains_cons, List.contains_nil, Bool.or_false, Lx.eq_nat]
    rfl)
  generalize Lx.isB c = R at *
  generalize c.toNat = n at *
  go_enter Tryz.func84, Tryz.ntmps84
  go_wp2_with fail
  all_goals
    go_ret
    refine ⟨Lx.ret_bool ?_, rfl⟩
    rw [HQ.out, Bool.eq_iff_iff]
    simp
    try omega

set_option maxHeartbeats 2000000 in
theorem mayStand_any (c : UInt8) (d : Int) (w : World) :
    Calls Tryz.prog 81 #[.int .u8 (c.toNat : Int), .int .i64 d] w fun e w' => e = .returned (.bool (Lx.may c d)) ∧ w = w' := by
  have HQ : Hid (Lx.may c d = ((Lx.isI c || decide (0 ≤ Lib.indexByte Lx.extra c)) || (decide (0 < d) && decide (c.toNat = 44)))) := Lib.hid (by unfold Lx.may Lx.inW; rw [Lx.index_has, Lx.eq_nat]; rfl)
  have HI := Lib.hid fun W => isOfIdent_any c W
  have HX : Hid (∀ W, Calls Tryz.prog 96 #[.string ⟨#[45, 58, 35, 37, 64, 61, 46, 42, 63, 91, 93, 123, 125, 43]⟩, .int .u8 (c.toNat : Int)] W fun e w' => e = .returned (.int .i64 (Lib.indexByte Lx.extra c)) ∧ w' = W) := Lib.hid fun W => indexByte_at Lx.extra c W
  generalize Lx.may c d = R at *
  generalize Lib.indexByte Lx.extra c = X at *
  generalize Lx.isI c = L at *
  generalize c.toNat = n at *
  cases L
  all_goals
    go_enter Tryz.func81, Tryz.ntmps81
    go_wp2_with first
      | (go_at_call 66; go_must (refine (HI.out _).mono ?_; rintro e w2 ⟨rfl, rfl⟩))
      | (go_at_call 96; go_must (refine (HX.out _).mono ?_; rintro e w2 ⟨rfl, rfl⟩))
    all_goals
      go_ret
      refine ⟨Lx.ret_bool ?_, rfl⟩
      rw [HQ.out, Bool.eq_iff_iff]
      simp
      try omega

set_option maxHeartbeats 1000000 in
theorem lrefIn_any (c : UInt8) (w : World) :
    Calls Tryz.prog 58 #[.int .u8 (c.toNat : Int)] w fun e w' => e = .returned (.bool (Lx.inW c)) ∧ w = w' := by
  have HB := Lib.hid fun W => lrefByte_any c W
  have HQ := Lib.hid (Lx.inW_B c)
  generalize Lx.inW c = R at *
  cases hb : Lx.isB c
  · rw [hb] at HB HQ
    have HR : Hid (Lx.extra2.contains c = R) := Lib.hid (by rw [HQ.out]; rfl)
    obtain ⟨sp, hsp⟩ : ∃ sp : List UInt8, sp = Lx.extra2 := ⟨_, rfl⟩
    rw [← hsp] at HR
    have hspl : sp.length = 8 := by rw [hsp]; rfl
    have HSP : Hid ((⟨#[46, 42, 63, 91, 93, 123, 125, 43]⟩ : ByteArray) = ⟨sp.toArray⟩) := Lib.hid (by rw [hsp]; rfl)
    clear hsp hb HQ
    go_enter Tryz.func58, Tryz.ntmps58
    go_wp2_with (go_at_call 84; go_must (refine (HB.out _).mono ?_; rintro e w2 ⟨rfl, rfl⟩))
    rw [HSP.out]
    go_loopw [4] (fun x wr => ∃ k : Nat, x = .int .i64 k ∧ k ≤ 8 ∧ Hid ((sp.drop k).contains c = R) ∧ Hid (w = wr)) (fun x _ => 8 - (intOf x).toNat)
    case atStart => exact ⟨0, rfl, by omega, Lib.hid HR.out, Lib.hid rfl⟩
    case round =>
      obtain ⟨k, rfl, hk, HM, HW⟩ := hrel
      by_cases hlt : k < 8
      · have hkl : k < sp.length := by omega
        obtain ⟨a, ha⟩ : ∃ a, sp[k] = a := ⟨_, rfl⟩
        have hget : sp[k]? = some a := by rw [List.getElem?_eq_getElem hkl, ha]
        obtain ⟨z0, g0⟩ := Lx.byte_at hget
        have hkI : (k : Int) < (sp.length : Int) := by omega
        have hk0 : (0 : Int) ≤ (k : Int) := by omega
        have HM2 : Hid ((c == a || (sp.drop (k + 1)).contains c) = R) := Lib.hid (by have := HM.out; rw [List.drop_eq_getElem_cons hkl, ha, List.contains_cons] at this; exact this)
        clear hget ha HM hspl
        by_cases he : c = a
        · have heI : (a.toNat : Int) = (c.toNat : Int) := by rw [he]
          have HQ : Hid (true = R) := Lib.hid (by rw [← HM2.out, he]; simp)
          clear he
          go_wp2_with fail
          go_ret
          exact ⟨by rw [← HQ.out]; rfl, HW.out⟩
        · have heI : ¬ (a.toNat : Int) = (c.toNat : Int) := fun e => he (UInt8.toNat_inj.1 (by omega))
          have HQ : Hid ((sp.drop (k + 1)).contains c = R) := Lib.hid (by rw [← HM2.out]; simp [he])
          clear he
          go_wp2_with fail
          go_roundw
          case rel => exact ⟨k + 1, by go_num, by omega, HQ, HW⟩
          case measure => simp [intOf]; omega
      · obtain rfl : k = 8 := by omega
        have hkI : ¬ (8 : Int) < (sp.length : Int) := by omega
        have HQ : Hid (false = R) := Lib.hid (by rw [← HM.out, List.drop_eq_nil_of_le (by omega)]; rfl)
        clear HM
        go_wp2_with fail
        go_ret
        exact ⟨by rw [← HQ.out]; rfl, HW.out⟩
  · rw [hb] at HB HQ
    have HQ2 : Hid (true = R) := Lib.hid (by rw [HQ.out]; rfl)
    clear hb HQ
    go_enter Tryz.func58, Tryz.ntmps58
    go_wp2_with (go_at_call 84; go_must (refine (HB.out _).mono ?_; rintro e w2 ⟨rfl, rfl⟩))
    go_ret
    exact ⟨by rw [← HQ2.out]; rfl, rfl⟩
end Go.Proofs.YtojmcndiooiehaaGreatDoor
