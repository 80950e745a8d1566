/-
  OwnB: BYTES: rows of the call's own, rows that are read, numbers as four bytes; the document's Four and FromFour (chapter 4's), where a seat has them.
  NmLib: CONTRACTS: what package name calls of package strings, in lists of bytes; what may stand in a name, on both sides.
-/
import Derived.Test.YtfmbbhcjnidcbaaGreatDoorJ5
import Derived.Test.YtfmbbhcjnidcbaaGreatDoorRows
import Derived.WalkKit
import Derived.WalkSpells
import Derived.WalkLawsBesides
import Derived.Deep.QuietTactic
import Derived.BigQuiet
import Derived.Lib.QuietBelow
import Derived.Lib.Hide
import Derived.IntWalk
import Derived.Deep.RegionHeld3
import Derived.Laws.MakeOwn
import Derived.Laws.BitsLemmas
import Derived.Laws.IdiomStrings
import Derived.Lib.BufferRead
import Derived.Test.YtfmbbhcjnidcbaaGreatDoorJ4
import Derived.Test.YtfmbbhcjnidcbaaGreatDoorJ1
import Derived.Laws.Strings3
import Derived.Lib.IndexBytes

namespace Go.Proofs.YtfmbbhcjnidcbaaGreatDoor
open Go.RowKit Go.Sort
open Me

theorem info_parts {P : Program} {e : TypeId} {z : Value} {a b : Nat} (h : (P.info? e).map (fun i => (i.zero, i.size, i.bytes)) = some (some z, a, b)) : ∃ i, P.info? e = some i ∧ i.zero = some z ∧ i.size = a ∧ i.bytes = b := by
  cases hi : P.info? e with
  | none => rw [hi] at h; cases h
  | some i => rw [hi] at h; simp at h; exact ⟨i, rfl, h.1, h.2.1, h.2.2⟩

namespace Wh
def four (n : Int) : List UInt8 := [UInt8.ofNat ((n / 16777216) % 256).toNat, UInt8.ofNat ((n / 65536) % 256).toNat, UInt8.ofNat ((n / 256) % 256).toNat, UInt8.ofNat (n % 256).toNat]
def fours (ns : List Int) : List UInt8 := ns.flatMap four
theorem fours_len (ns : List Int) : (fours ns).length = 4 * ns.length := by
  induction ns with
  | nil => rfl
  | cons n ns ih => unfold fours at *; simp [List.flatMap_cons, four, ih]; omega
theorem fours_take (ns : List Int) (k : Nat) (h : k < ns.length) : fours (ns.take (k + 1)) = fours (ns.take k) ++ four ns[k] := by
  unfold fours
  rw [List.take_succ_eq_append_getElem h, List.flatMap_append]
  simp
theorem u8of (x : Int) : ((UInt8.ofNat (x % 256).toNat).toNat : Int) = x % 256 := by
  have h1 := Int.emod_nonneg x (by omega : (256 : Int) ≠ 0)
  have h2 := Int.emod_lt_of_pos x (by omega : (0 : Int) < 256)
  rw [UInt8.toNat_ofNat', Nat.mod_eq_of_lt (by omega)]
  omega
theorem by8_four (n : Int) : by8 (four n) = [.int .u8 ((n / 16777216) % 256), .int .u8 ((n / 65536) % 256), .int .u8 ((n / 256) % 256), .int .u8 (n % 256)] := by
  unfold by8 four
  simp only [List.map_cons, List.map_nil, u8of]
end Wh

def OwnB (base : Nat) (w : World) (v : Value) (l : List UInt8) : Prop := w.ownsRow base 5 1 v l.length (by8 l)
/-- What an append leaves. -/
def Laid (base : Nat) (w : World) (v : Value) (l : List UInt8) (e : Ending) (w' : World) : Prop :=
  ∃ v', e = .returned v' ∧ OwnB base w' v' l ∧ Kp (fun b => v.ownBlock = some b) w w' ∧ (∀ g, v'.ownBlock = some g → v.ownBlock = some g ∨ w.heap.size ≤ g)

theorem own_lt {base : Nat} {w : World} {v : Value} {l : List UInt8} (h : OwnB base w v l) : ∀ g, v.ownBlock = some g → base ≤ g ∧ g < w.heap.size := by
  intro g hg
  rcases h.2 with ⟨rfl, _⟩ | ⟨g', cap, cur, rfl, hb, hh, _⟩
  · cases hg
  · have : g' = g := by simpa [Value.ownBlock] using hg
    subst this
    exact ⟨hb, (Array.getElem?_eq_some_iff.1 hh).1⟩

theorem by8_four4 {n : Int} (h1 : 0 ≤ n) (h2 : n ≤ 4294967295) : by8 (Wh.four n) = [.int .u8 (n / 16777216), .int .u8 ((n / 65536) % 256), .int .u8 ((n / 256) % 256), .int .u8 (n % 256)] := by
  rw [Wh.by8_four]
  have : n / 16777216 % 256 = n / 16777216 := Int.emod_eq_of_lt (by omega) (by omega)
  rw [this]
theorem own_more {base : Nat} {w : World} {v : Value} {X Y : List UInt8} {m : Nat} (hm : Y.length = m) (h : w.ownsRow base 5 1 v (X.length + m) (by8 X ++ by8 Y)) : OwnB base w v (X ++ Y) := by
  unfold OwnB
  rw [List.length_append, by8_append, hm]
  exact h

theorem OwnB.base {a b : Nat} {w : World} {v : Value} {l : List UInt8} (h : OwnB b w v l) (hab : a ≤ b) : OwnB a w v l := by
  refine ⟨h.1, ?_⟩
  rcases h.2 with hn | ⟨g, cap, cur, hv, hb, rest⟩
  · exact .inl hn
  · exact .inr ⟨g, cap, cur, hv, by omega, rest⟩
theorem OwnB.nil (a : Nat) (w : World) : OwnB a w (.slice none 0 0) [] := ⟨rfl, .inl ⟨rfl, rfl⟩⟩
theorem OwnB.kp {a : Nat} {w w' : World} {v : Value} {l : List UInt8} {O : Nat → Prop} (h : OwnB a w v l) (k : Kp O w w') (hO : ∀ g, v.ownBlock = some g → ¬ O g) : OwnB a w' v l :=
  owns_keep h fun g hg => k.block g (own_lt h g hg).2 (hO g hg)
theorem OwnB.below {a : Nat} {w w' : World} {v : Value} {l : List UInt8} (h : OwnB a w v l) (k : Below w.heap.size w w') : OwnB a w' v l :=
  owns_keep h fun g hg => k.block g (own_lt h g hg).2

/-- A slice of bytes in some world, as a list: what a conversion to a string hands back. -/
def Reads (w : World) (v : Value) (l : List UInt8) : Prop := ∃ A c, v = .slice A l.length c ∧ l.length ≤ c ∧ Rd w (fun _ => True) A (by8 l)
theorem Reads.keep {w w' : World} {v : Value} {l : List UInt8} (h : Reads w v l) (hs : w.heap.size ≤ w'.heap.size) (hk : ∀ i, i < w.heap.size → w'.heap[i]? = w.heap[i]?) : Reads w' v l := by
  obtain ⟨A, c, e, hc, hr⟩ := h
  exact ⟨A, c, e, hc, hr.keep hs fun i hi _ => hk i hi⟩
theorem Reads.below {w w' : World} {v : Value} {l : List UInt8} (h : Reads w v l) (b : Below w.heap.size w w') : Reads w' v l := h.keep b.size fun i hi => b.block i hi
theorem Reads.drewN {w : World} {v : Value} {l : List UInt8} (h : Reads w v l) (n : Nat) : Reads (w.drewN n) v l := h
theorem Reads.conv {w : World} {v : Value} {l : List UInt8} (h : Reads w v l) : (convert 105 9 v).run Tryz.prog w = .ok (.string ⟨l.toArray⟩) w := by
  obtain ⟨A, c, rfl, _, hr⟩ := h
  by_cases hl : l = []
  · subst hl
    cases A with
    | none => exact Lib.run_convert_nil_bytes w _ _ 5 c Tryz.underlying105 Tryz.underlying5 Tryz.underlying9
    | some a => exact run_convert_bytes_back w _ _ 5 a c [] Tryz.underlying105 Tryz.underlying5 Tryz.underlying9 fun j hj => by cases hj
  · obtain ⟨ad, rfl, _, _, hc⟩ := hr (by intro e; apply hl; have := by8_len l; rw [e] at this; exact List.eq_nil_of_length_eq_zero this.symm)
    exact run_convert_bytes_back w _ _ 5 ad c l Tryz.underlying105 Tryz.underlying5 Tryz.underlying9 fun j hj => hc j _ (by8_get l j hj)
theorem Reads.own {w : World} {base : Nat} {v : Value} {l : List UInt8} (h : OwnB base w v l) : Reads w v l := by
  obtain ⟨A, c, e, hc, _, hr⟩ := Bs.own h
  exact ⟨A, c, e, hc, hr.mono fun _ _ _ => trivial⟩
theorem Reads.take {w : World} {A : Option Addr} {l : List UInt8} {c n : Nat} (h : Reads w (.slice A l.length c) l) (hn : n ≤ l.length) : Reads w (.slice A n c) (l.take n) := by
  obtain ⟨A', c', e, hc, hr⟩ := h
  injection e with e1 e2 e3
  subst e1 e3
  refine ⟨A, c, by rw [List.length_take, Nat.min_eq_left hn], by rw [List.length_take]; omega, fun hne => ?_⟩
  obtain ⟨ad, e, h1, h2, h3⟩ := hr (by rintro e; apply hne; unfold by8 at *; rw [List.map_eq_nil_iff] at e; rw [e]; simp)
  refine ⟨ad, e, h1, h2, fun j u hu => h3 j u ?_⟩
  unfold by8 at hu ⊢
  rw [List.map_take, List.getElem?_take] at hu
  split at hu
  · exact hu
  · cases hu

namespace Wh
def byt (L : List UInt8) (i : Nat) : Nat := (L.getD i 0).toNat
def nm (L : List UInt8) (i : Nat) : Int := (byt L i : Int) * 16777216 + byt L (i + 1) * 65536 + byt L (i + 2) * 256 + byt L (i + 3)
theorem by_lt (L : List UInt8) (i : Nat) : byt L i < 256 := UInt8.toNat_lt _
theorem nm_bd (L : List UInt8) (i : Nat) : 0 ≤ nm L i ∧ nm L i ≤ 4294967295 := by
  have := by_lt L i
  have := by_lt L (i + 1)
  have := by_lt L (i + 2)
  have := by_lt L (i + 3)
  unfold nm
  omega
theorem wraps_i64 (n : Int) (h₀ : 0 ≤ n) (h₁ : n < 2 ^ 63) : IntKind.i64.wrap n = n := by rw [IntKind.wrap_i64]; omega
theorem join (i : Nat) (x y : Int) (hx₀ : 0 ≤ x) (hx : x % 2 ^ i = 0) (hx₁ : x < 2 ^ 63) (hy₀ : 0 ≤ y) (hy : y < 2 ^ i) (hy₁ : y < 2 ^ 63) : bits .or .i64 x y = x + y :=
  bits_join .i64 63 (by decide) wraps_i64 i x y hx₀ hx hx₁ hy₀ hy hy₁
theorem join4 (c0 c1 c2 c3 : Nat) (k0 : c0 < 256) (k1 : c1 < 256) (k2 : c2 < 256) (k3 : c3 < 256) :
    bits .or .i64 (bits .or .i64 (bits .or .i64 ((c0 : Int) * 16777216) ((c1 : Int) * 65536)) ((c2 : Int) * 256)) (c3 : Int) = (c0 : Int) * 16777216 + c1 * 65536 + c2 * 256 + c3 := by
  rw [join 24 ((c0 : Int) * 16777216) ((c1 : Int) * 65536) (by omega) (by omega) (by omega) (by omega) (by omega) (by omega),
    join 16 ((c0 : Int) * 16777216 + (c1 : Int) * 65536) ((c2 : Int) * 256) (by omega) (by omega) (by omega) (by omega) (by omega) (by omega),
    join 8 ((c0 : Int) * 16777216 + (c1 : Int) * 65536 + (c2 : Int) * 256) (c3 : Int) (by omega) (by omega) (by omega) (by omega) (by omega) (by omega)]
end Wh

/-- Bytes that lie at an address. -/
structure By (w : World) (b off : Nat) (L : List UInt8) : Prop where
  lt : b < w.heap.size
  at_ : ∀ j, j < L.length → w.cell? ⟨b, off + j, none⟩ = some (.int .u8 (Wh.byt L j : Int))
theorem By.below {w w' : World} {b off : Nat} {L : List UInt8} (h : By w b off L) (hb : Below w.heap.size w w') : By w' b off L :=
  ⟨Nat.lt_of_lt_of_le h.lt hb.size, fun j hj => (hb.cell (p := ⟨b, off + j, none⟩) h.lt).trans (h.at_ j hj)⟩



/-- A block that is known whole. -/
def RowAt (w : World) (g : Nat) (t : TypeId) (cs : Array Value) : Prop := w.heap[g]? = some (.cells cs t (0, 0))
section
variable {w w' : World} {g : Nat} {t : TypeId} {cs : Array Value}
theorem RowAt.lt (h : RowAt w g t cs) : g < w.heap.size := (Array.getElem?_eq_some_iff.1 h).1
theorem RowAt.cell (h : RowAt w g t cs) (i : Nat) : w.cell? ⟨g, i, none⟩ = cs[i]? := cell_of_row w g i cs t (0, 0) h
theorem RowAt.frozen (h : RowAt w g t cs) (i : Nat) : w.frozen? ⟨g, i, none⟩ = false := by
  unfold RowAt at h
  simp [World.frozen?, h]
theorem RowAt.set_ (h : RowAt w g t cs) (i : Nat) (u : Value) : RowAt (w.setCell ⟨g, i, none⟩ u) g t (cs.setIfInBounds i u) := by
  unfold RowAt at h ⊢
  simp [World.setCell, Array.getElem?_modify, h]
theorem RowAt.far (h : RowAt w g t cs) {p : Addr} (hp : g ≠ p.block) (u : Value) : RowAt (w.setCell p u) g t cs := (Below.heap_setCell w p u g hp).trans h
theorem RowAt.below (h : RowAt w g t cs) {B : Nat} (hb : Below B w w') (hg : g < B) : RowAt w' g t cs := (hb.block g hg).trans h
theorem RowAt.alloc (h : RowAt w g t cs) (o : Obj) : RowAt (w.alloc o) g t cs := (Below.heap_alloc w o g h.lt).trans h
theorem RowAt.new (w : World) (cs : Array Value) (t : TypeId) : RowAt (w.alloc (.cells cs t)) w.heap.size t cs := heap_alloc_new w _
theorem RowAt.drewN (h : RowAt w g t cs) (n : Nat) : RowAt (w.drewN n) g t cs := h
theorem RowAt.drew (h : RowAt w g t cs) : RowAt w.drew g t cs := h
end

end Go.Proofs.YtfmbbhcjnidcbaaGreatDoor

namespace Go.Proofs.YtfmbbhcjnidcbaaGreatDoor
open Go.RowKit
open Me

namespace Nm
theorem splitK_pt (s : List UInt8) : Lib.splitK [46] 0 (Lib.count s [46]) s = pt s := by
  induction s with
  | nil => rfl
  | cons b r ih =>
    by_cases hb : b = 46
    · subst hb
      have hi : Lib.index (46 :: r) [46] = 0 := by unfold Lib.index; simp
      rw [Lib.count_cons_eq, Nat.add_comm, Lib.splitK, hi, if_neg (by decide), pt_dot]
      show (46 :: r).take 0 :: Lib.splitK [46] 0 (Lib.count r [46]) r = _
      rw [ih]; rfl
    · rw [Lib.count_cons_ne _ _ _ hb]
      cases hk : Lib.count r [46] with
      | zero => rw [hk] at ih; rw [pt_cons hb ih.symm]; rfl
      | succ k =>
        obtain ⟨i, hi⟩ := Lib.index_of_count (s := r) (old := [46]) (by omega)
        have hi2 : Lib.index (b :: r) [46] = ((i + 1 : Nat) : Int) := by
          unfold Lib.index
          rw [if_neg (by simpa using fun e => hb e.symm), hi, if_neg (by first | (simp; done) | (simp; omega))]
          omega
        rw [hk, Lib.splitK, hi, if_neg (by first | (simp; done) | (simp; omega))] at ih
        rw [Lib.splitK, hi2, if_neg (by first | (simp; done) | (simp; omega)), pt_cons hb ih.symm]
        simp
theorem replace_turn (a c : UInt8) (s : List UInt8) : Lib.replaceK [a] [c] (Lib.count s [a]) s = turn a c s := by
  induction s with
  | nil => rfl
  | cons b r ih =>
    by_cases hb : b = a
    · subst hb
      have hi : Lib.index (b :: r) [b] = 0 := by unfold Lib.index; simp
      rw [Lib.count_cons_eq, Nat.add_comm, Lib.replaceK, hi, if_neg (by decide)]
      show [] ++ [c] ++ Lib.replaceK [b] [c] (Lib.count r [b]) r = _
      rw [ih]; unfold turn; simp
    · rw [Lib.count_cons_ne _ _ _ hb]
      have ht : turn a c (b :: r) = b :: turn a c r := by unfold turn; simp [hb]
      rw [ht]
      cases hk : Lib.count r [a] with
      | zero => rw [hk] at ih; rw [← ih]; rfl
      | succ k =>
        obtain ⟨i, hi⟩ := Lib.index_of_count (s := r) (old := [a]) (by omega)
        have hi2 : Lib.index (b :: r) [a] = ((i + 1 : Nat) : Int) := by
          unfold Lib.index
          rw [if_neg (by simpa using fun e => hb e.symm), hi, if_neg (by first | (simp; done) | (simp; omega))]
          omega
        rw [hk, Lib.replaceK, hi, if_neg (by first | (simp; done) | (simp; omega))] at ih
        rw [Lib.replaceK, hi2, if_neg (by first | (simp; done) | (simp; omega)), ← ih]
        simp
theorem replaceAll_turn (a c : UInt8) (h : a ≠ c) (s : List UInt8) : Lib.replaceAll s [a] [c] = turn a c s := by
  unfold Lib.replaceAll Lib.replace
  rw [if_neg (by simpa using h)]
  unfold Lib.replaceNum
  rw [if_pos (.inl (by decide)), replace_turn]
theorem index_neg (l : List UInt8) : decide (0 ≤ Lib.indexByte l 46) = !noDot l := by
  induction l with
  | nil => rfl
  | cons b r ih =>
    unfold Lib.indexByte
    by_cases hb : b = 46
    · subst hb; rfl
    · have h1 : (b == 46) = false := by simpa using hb
      have e1 : noDot (b :: r) = noDot r := by unfold noDot; rw [List.all_cons]; simp [hb]
      rw [h1, e1, ← ih]
      simp only [Bool.false_eq_true, if_false]
      have hg := Lib.indexByte_ge r 46
      by_cases h2 : Lib.indexByte r 46 = -1
      · rw [h2]; rfl
      · rw [if_neg (by simpa using h2), decide_eq_true (by omega), decide_eq_true (by omega)]
theorem cut_dot (l : List UInt8) : Lib.cut l [46] = (if dotted l then (ahead l, behind l, true) else (l, [], false)) := by
  unfold Lib.cut
  rw [Lib.index_one]
  have key : Lib.indexByte l 46 = if dotted l then ((ahead l).length : Int) else -1 := by
    induction l with
    | nil => rfl
    | cons b r ih =>
      unfold Lib.indexByte
      by_cases hb : b = 46
      · subst hb; rfl
      · have h1 : (b == 46) = false := by simpa using hb
        have h2 : (b != 46) = true := by simpa using hb
        have e1 : dotted (b :: r) = dotted r := by unfold dotted; rw [List.dropWhile_cons, h2]; rfl
        have e2 : (ahead (b :: r)).length = (ahead r).length + 1 := by unfold ahead; rw [List.takeWhile_cons, h2]; rfl
        rw [h1, ih, e1, e2]
        simp only [Bool.false_eq_true, if_false]
        by_cases hd : dotted r = true
        · rw [if_pos hd, if_pos hd, if_neg (by first | (simp; done) | (simp; omega))]; omega
        · rw [if_neg hd, if_neg hd]; rfl
  rw [key]
  by_cases hd : dotted l = true
  · rw [if_pos hd, if_pos hd, if_pos (by omega)]
    have e := whole l hd
    have e1 : l.take (ahead l).length = ahead l := by conv => lhs; arg 2; rw [e]
                                                      simp
    have e2 : l.drop ((ahead l).length + 1) = behind l := by conv => lhs; arg 2; rw [e]
                                                             simp
    show (l.take (ahead l).length, l.drop ((ahead l).length + 1), true) = _
    rw [e1, e2]
  · rw [if_neg hd, if_neg hd, if_neg (by omega)]
theorem suffix_ends (l : List UInt8) : Lib.hasSuffix l wsp = ends l := by
  unfold Lib.hasSuffix ends
  by_cases h : 4 ≤ l.length
  · rw [decide_eq_true h, Bool.true_and]
    by_cases e : l.drop (l.length - 4) = wsp
    · rw [e, beq_self_eq_true]
      rw [List.isSuffixOf_iff_suffix]
      exact ⟨l.take (l.length - 4), by rw [← e, List.take_append_drop]⟩
    · rw [beq_eq_false_iff_ne.2 e]
      cases hs : wsp.isSuffixOf l with
      | false => rfl
      | true =>
        obtain ⟨t, ht⟩ := List.isSuffixOf_iff_suffix.1 hs
        exfalso; apply e; rw [← ht]; simp [wsp]
  · rw [decide_eq_false h, Bool.false_and]
    cases hs : wsp.isSuffixOf l with
    | false => rfl
    | true =>
      obtain ⟨t, ht⟩ := List.isSuffixOf_iff_suffix.1 hs
      exfalso; apply h; rw [← ht]; simp [wsp]
theorem suffix_stem (l : List UInt8) : Lib.trimSuffix l wsp = if ends l then stem l else l := by
  unfold Lib.trimSuffix
  rw [suffix_ends]
  rfl
end Nm

/-- What package strings asks of the world: a variable of its own holds some number. -/
def Mx (w : World) : Prop := ∃ m, w.cell? ⟨0, 0, none⟩ = some (.int .i64 m)
theorem Mx.lt {w : World} (h : Mx w) : 0 < w.heap.size := by
  obtain ⟨m, hm⟩ := h
  exact World.block_lt_of_cell? _ _ hm
theorem Mx.below {w w' : World} (h : Mx w) (hb : Below w.heap.size w w') : Mx w' := by
  obtain ⟨m, hm⟩ := h
  exact ⟨m, (hb.cell (World.block_lt_of_cell? _ _ hm)).trans hm⟩

theorem len_lt {l : List UInt8} (h : l.length ≤ 4294967280) : (⟨l.toArray⟩ : ByteArray).size < 4294967281 := by show l.toArray.size < _; simp; omega

theorem split46 (l : List UInt8) (hl : l.length ≤ 4294967280) (w : World) (hm : Mx w) :
    Calls Tryz.prog 34 #[.string ⟨l.toArray⟩, .string ⟨#[46]⟩] w fun e w' => e = .returned (.slice (some ⟨w.heap.size, 0, none⟩) (Nm.pt l).length (Nm.pt l).length) ∧ w' = w.alloc (.cells (byS (Nm.pt l)).toArray 9) := by
  obtain ⟨m, hm⟩ := hm
  have e2 : (Lib.splitB ⟨#[46]⟩ 0 (Lib.countB ⟨l.toArray⟩ ⟨#[46]⟩) ⟨l.toArray⟩).map (·.data.toList) = Nm.pt l := by rw [Lib.splitB_data]; exact Nm.splitK_pt l
  have e1 : Lib.countB ⟨l.toArray⟩ ⟨#[46]⟩ + 1 = (Nm.pt l).length := by
    rw [← e2, List.length_map, Lib.splitB_all _ (by decide) 0 _ _ rfl]
  have e3 : (Lib.splitB ⟨#[46]⟩ 0 (Lib.countB ⟨l.toArray⟩ ⟨#[46]⟩) ⟨l.toArray⟩).map Value.string = byS (Nm.pt l) := by
    rw [← e2]; unfold byS; rw [List.map_map]; apply List.map_congr_left; intro x _; show Value.string x = Value.string ⟨x.data.toList.toArray⟩; rw [Array.toArray_toList]
  refine (Tryz.strings_Split ⟨l.toArray⟩ ⟨#[46]⟩ m w (len_lt hl) hm (by decide)).mono ?_
  rintro e w' ⟨rfl, rfl⟩
  rw [e1, e3]
  exact ⟨rfl, rfl⟩
theorem replace_any (a c : UInt8) (h : a ≠ c) (l : List UInt8) (hl : l.length ≤ 4294967280) (w : World) (hm : Mx w) :
    Calls Tryz.prog 106 #[.string ⟨l.toArray⟩, .string ⟨#[a]⟩, .string ⟨#[c]⟩] w fun e w' => e = .returned (.string ⟨(Nm.turn a c l).toArray⟩) ∧ Below w.heap.size w w' := by
  obtain ⟨m, hm⟩ := hm
  have h0 : (⟨l.toArray⟩ : ByteArray).size = l.length := by show l.toArray.size = _; simp
  have hc : Lib.countB ⟨l.toArray⟩ ⟨#[a]⟩ ≤ l.length := h0 ▸ Lib.countB_le (⟨#[a]⟩ : ByteArray) (Nat.le_refl 1) l.length ⟨l.toArray⟩ (by rw [h0]; exact Nat.le_refl _)
  refine (Tryz.strings_ReplaceAll ⟨l.toArray⟩ ⟨#[a]⟩ ⟨#[c]⟩ m w (len_lt hl) hm (Nat.le_refl 1) (by rw [h0]; show l.length + _ * 1 ≤ _; omega)).mono ?_
  rintro e w' ⟨rfl, hb⟩
  refine ⟨?_, hb⟩
  show Ending.returned (.string ⟨(Lib.replaceAll l.toArray.toList [a] [c]).toArray⟩) = _
  rw [List.toList_toArray, Nm.replaceAll_turn a c h]
theorem contains46 (l : List UInt8) (w : World) :
    Calls Tryz.prog 123 #[.string ⟨l.toArray⟩, .string ⟨#[46]⟩] w fun e w' => e = .returned (.bool (!Nm.noDot l)) ∧ w' = w := by
  refine (Tryz.strings_Contains_one ⟨l.toArray⟩ 46 w).mono ?_
  rintro e w' ⟨rfl, hw⟩
  refine ⟨?_, hw⟩
  show Ending.returned (.bool (decide (0 ≤ Lib.indexByte l.toArray.toList 46))) = _
  rw [List.toList_toArray, Nm.index_neg]
theorem count46 (l : List UInt8) (w : World) :
    Calls Tryz.prog 66 #[.string ⟨l.toArray⟩, .string ⟨#[46]⟩] w fun e w' => e = .returned (.int .i64 (((Nm.pt l).length : Int) - 1)) ∧ w' = w := by
  refine (Tryz.strings_Count_one ⟨l.toArray⟩ 46 w).mono ?_
  rintro e w' ⟨rfl, hw⟩
  refine ⟨?_, hw⟩
  show Ending.returned (.int .i64 ((l.toArray.toList.count 46 : Nat) : Int)) = _
  rw [List.toList_toArray, Nm.pt_length]
  congr 2
  omega
theorem cutDot (l : List UInt8) (hl : l.length ≤ 4294967280) (w : World) (hm : Mx w) :
    Calls Tryz.prog 91 #[.string ⟨l.toArray⟩, .string ⟨#[46]⟩] w fun e w' => e = .returned (.tuple #[.string ⟨(if Nm.dotted l then Nm.ahead l else l).toArray⟩, .string ⟨(if Nm.dotted l then Nm.behind l else []).toArray⟩, .bool (Nm.dotted l)]) ∧ Below w.heap.size w w' := by
  obtain ⟨m, hm⟩ := hm
  refine (Tryz.strings_Cut ⟨l.toArray⟩ ⟨#[46]⟩ m w (len_lt hl) hm).mono ?_
  rintro e w' ⟨rfl, n, rfl⟩
  refine ⟨?_, ⟨rfl, rfl, rfl, Nat.le_refl _, fun _ _ => rfl⟩⟩
  show Ending.returned (.tuple #[.string ⟨(Lib.cut l.toArray.toList [46]).1.toArray⟩, .string ⟨(Lib.cut l.toArray.toList [46]).2.1.toArray⟩, .bool (Lib.cut l.toArray.toList [46]).2.2]) = _
  rw [List.toList_toArray, Nm.cut_dot]
  cases Nm.dotted l <;> rfl

set_option maxHeartbeats 400000 in
theorem clone_str (l : List UInt8) (hl : l.length ≤ 4294967280) (w : World) :
    Calls Tryz.prog 36 #[.string ⟨l.toArray⟩] w fun e w' => e = .returned (.string ⟨l.toArray⟩) ∧ Below w.heap.size w w' := by
  have H := Lib.hid (fun W => Tryz.stringslite_Clone ⟨l.toArray⟩ W (by show l.toArray.size ≤ _; simp; omega))
  go_enter Tryz.func36, Tryz.ntmps36
  go_wp2_with (go_at_call 60; go_must (refine (H.out _).mono ?_; rintro e w' ⟨rfl, hb⟩))
  go_ret
  exact ⟨rfl, hb⟩

/-! ## a Builder of the call's own -/
/-- It holds these bytes. -/
def Bld (base : Nat) (b : Nat) (l : List UInt8) (w : World) : Prop := Lib.IsBuilder 107 5 base b (Lib.byteCells l) w
theorem Bld.new (w : World) : Bld w.heap.size w.heap.size [] (w.alloc (.cells #[.pointer none, .slice none 0 0] 107)) := Lib.fresh_isBuilder _ _ _
theorem Bld.below {base b : Nat} {l : List UInt8} {w w' : World} (h : Bld base b l w) (hb : Below w.heap.size w w') : Bld base b l w' := by
  have key : ∀ p, Lib.BuilderAt 107 5 base b p (Lib.byteCells l) w → Lib.BuilderAt 107 5 base b p (Lib.byteCells l) w' := fun p hp => by
    have hlt := hp.lt
    obtain ⟨h1, v, h2, h3, h4⟩ := hp
    refine ⟨h1, v, (hb.block b hlt).trans h2, owns_keep h3 fun g hg => hb.block g ?_, h4⟩
    rcases h3.2 with ⟨rfl, _⟩ | ⟨g', cap, cur, rfl, _, hh, _⟩
    · cases hg
    · have : g' = g := by simpa [Value.ownBlock] using hg
      subst this
      exact (Array.getElem?_eq_some_iff.1 hh).1
  rcases h with h | h
  · exact .inl (key _ h)
  · exact .inr (key _ h)
theorem write_str {base b : Nat} {l : List UInt8} {w : World} (h : Bld base b l w) (s : List UInt8) (hl : l.length + s.length ≤ 140737488355328) (hB : base ≤ w.heap.size) :
    Calls Tryz.prog 71 #[.pointer (some ⟨b, 0, none⟩), .string ⟨s.toArray⟩] w fun e w' => e = .returned (.tuple #[.int .i64 s.length, .nilIface]) ∧ Bld base b (l ++ s) w' ∧ Below base w w' := by
  refine (Tryz.Builder_WriteString base b _ ⟨s.toArray⟩ w h (by rw [Lib.byteCells_length]; show l.length + s.toArray.size ≤ _; simpa using hl) hB).mono ?_
  rintro e w' ⟨rfl, h1, h2⟩
  refine ⟨?_, .inr ?_, h2⟩
  · show Ending.returned (.tuple #[.int .i64 ((s.toArray.size : Nat) : Int), .nilIface]) = _
    rw [List.size_toArray]
  · rw [Lib.byteCells_append]; exact h1
theorem string_str {base b : Nat} {l : List UInt8} {w : World} (h : Bld base b l w) (hB : base ≤ w.heap.size) :
    Calls Tryz.prog 64 #[.pointer (some ⟨b, 0, none⟩)] w fun e w' => e = .returned (.string ⟨l.toArray⟩) ∧ Below base w w' :=
  Tryz.Builder_String_any base b l w h hB
end Go.Proofs.YtfmbbhcjnidcbaaGreatDoor
