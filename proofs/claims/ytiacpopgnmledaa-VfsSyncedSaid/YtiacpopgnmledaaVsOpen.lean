/-
  WHAT COMES IN: rows of bytes, rows of rows, acts: the reader's data as lists.
-/
import Derived.Test.YtiacpopgnmledaaVsKnown
import Derived.ProofKit
import Derived.OpenShut
import Derived.ChangeOld
import Derived.ChangeSlices
import Derived.ChangeArms
import Derived.Deep.Slices
namespace Go.Proofs.Ytiacpopgnmledaa
open Go.RowKit
open Me Vf
namespace Vs

theorem els_open {α : Type} (E : α → List Value → Prop) (s : Nat) (w : World) (a : Addr) : ∀ (len : Nat), (∀ i, i < len → ∃ x cs, cs.length = s ∧ E x cs ∧ ∀ j u, cs[j]? = some u → w.cell? ((a.add (i * s)).add j) = some u) →
    ∃ l xs, l.length = len ∧ xs.length = len * s ∧ Els E l xs ∧ ∀ j u, xs[j]? = some u → w.cell? (a.add j) = some u
  | 0, _ => ⟨[], [], rfl, by simp, rfl, fun j u hu => by simp at hu⟩
  | n + 1, h => by
    obtain ⟨l, xs, h1, h2, h3, h4⟩ := els_open E s w a n (fun i hi => h i (by omega))
    obtain ⟨x, cs, g1, g2, g3⟩ := h n (by omega)
    refine ⟨l ++ [x], xs ++ cs, by simp [h1], by rw [List.length_append, h2, g1, Nat.succ_mul], h3.append (Els.one g2), fun j u hu => ?_⟩
    rcases Nat.lt_or_ge j xs.length with hj | hj
    · rw [List.getElem?_append_left hj] at hu
      exact h4 j u hu
    · rw [List.getElem?_append_right hj] at hu
      have := g3 _ u hu
      rw [Me.add_add] at this
      rwa [show n * s + (j - xs.length) = j by rw [← h2]; omega] at this

section
variable {H : Type} {enc : TypeId × Value → H} {w : World} {base : Nat} {spare : Nat → Bool} {held : Bool} {fuel : Nat}
/-- Old blocks. -/
def Old (w : World) (b : Nat) : Prop := b < w.heap.size
theorem bytes_open {cs : List Value} {y : DataW H × List MemPlace} (h : DataW.trod enc Try.prog w base spare held fuel 40 cs = some y) : ∃ v l, cs = [v] ∧ Bs w (Old w) v l := by
  rcases Go.ChangeShapes.open_ints Try.underlying40 Try.underlying5 (by kernel_rfl) h with ⟨rfl, _⟩ | ⟨a, len, cap, zs, rfl, hb, hl, hm, hzl, _, hc, hwf⟩
  · exact ⟨_, [], rfl, none, 0, rfl, Nat.le_refl _, Nat.zero_le _, Rd.none_ _ _ _⟩
  · have hlz : len ≤ zs.length := by rw [hzl]; split <;> omega
    have key : ∀ z ∈ zs, (((UInt8.ofNat z.toNat).toNat : Nat) : Int) = z := fun z hz => by
      have := hwf z hz
      simp [Lit.wf, IntKind.min, IntKind.max, IntKind.signed, IntKind.bits] at this
      simp
      omega
    have hlen : ((zs.take len).map (fun z => UInt8.ofNat z.toNat)).length = len := by simp; omega
    refine ⟨_, (zs.take len).map (fun z => UInt8.ofNat z.toNat), rfl, some a, cap, by rw [hlen], by rw [hlen]; exact hl, hm, fun hn => ⟨a, rfl, ?_, ?_, fun j u hu => ?_⟩⟩
    · have h0 : 0 < zs.length := by
        rcases Nat.eq_zero_or_pos len with e | e
        · exfalso; apply hn; subst e; simp [by8]
        · omega
      exact World.block_lt_of_cell? w _ (hc 0 h0)
    · have h0 : 0 < zs.length := by
        rcases Nat.eq_zero_or_pos len with e | e
        · exfalso; apply hn; subst e; simp [by8]
        · omega
      have := World.block_lt_of_cell? w _ (hc 0 h0)
      rwa [block_add] at this
    · unfold by8 at hu
      rw [List.map_map, List.getElem?_map, List.getElem?_take] at hu
      split at hu
      · rename_i hj
        have hjz : j < zs.length := by omega
        rw [List.getElem?_eq_getElem hjz] at hu
        simp only [Option.map_some, Function.comp_apply, Option.some.injEq] at hu
        rw [← hu, hc j hjz, key _ (List.getElem_mem hjz)]
        simp [hjz]
      · cases hu
theorem rows_open {cs : List Value} {y : DataW H × List MemPlace} (h : DataW.trod enc Try.prog w base spare held fuel 32 cs = some y) : ∃ v l, cs = [v] ∧ Vf.Ps w (Old w) v l := by
  rcases Go.Deep.open_slice Try.underlying32 h with ⟨rfl, _⟩ | ⟨a, len, cap, m, n, D, Pl, rfl, _, hl, hcm, hm, _, hi⟩
  · exact ⟨_, [], rfl, none, 0, [], rfl, Nat.le_refl _, Nat.zero_le _, Rd.none_ _ _ _, rfl⟩
  · have hC : Try.prog.cellsOf 40 = 1 := by kernel_rfl
    obtain ⟨l, xs, h1, h2, h3, h4⟩ := els_open (Vf.BsC w (Old w)) 1 w a len (fun i hil => by
      obtain ⟨cs', g1, g2⟩ := hi i (by rw [hm]; split <;> omega)
      rw [hC] at g1
      obtain ⟨_, hlen, hat⟩ := World.cells?_some g1
      obtain ⟨v, b, rfl, hb⟩ := bytes_open g2
      refine ⟨b, [v], rfl, ⟨v, rfl, hb⟩, fun j u hu => ?_⟩
      have hj : j < 1 := by
        rcases Nat.lt_or_ge j 1 with h | h
        · exact h
        · rw [List.getElem?_eq_none (by simpa using h)] at hu; cases hu
      have := hat j hj
      rw [this]
      simpa using hu)
    refine ⟨_, l, rfl, some a, cap, xs, by rw [h1], by rw [h1]; exact hl, hcm, fun hn => ⟨a, rfl, ?_, ?_, h4⟩, h3⟩
    · have h0 : 0 < xs.length := List.length_pos_iff.2 hn
      have := World.block_lt_of_cell? w _ (h4 0 _ (List.getElem?_eq_getElem h0))
      rwa [block_add] at this
    · have h0 : 0 < xs.length := List.length_pos_iff.2 hn
      have := World.block_lt_of_cell? w _ (h4 0 _ (List.getElem?_eq_getElem h0))
      rwa [block_add] at this

/-- An act of a script. -/
structure A where
  kind : Int
  off : Int
  n : Int
  name : List UInt8
  b : List (List UInt8)
def i64 (x : Int) : Prop := -9223372036854775808 ≤ x ∧ x ≤ 9223372036854775807
def ActC (w : World) (G : Nat → Prop) (a : A) (cs : List Value) : Prop := (∃ v, cs = [.int .i64 a.kind, .int .i64 a.off, .int .i64 a.n, .string ⟨a.name.toArray⟩, v] ∧ Vf.Ps w G v a.b) ∧ i64 a.kind ∧ i64 a.off ∧ i64 a.n ∧ a.name.length ≤ maxLen
theorem ActC.five {w : World} {G : Nat → Prop} : ∀ a cs, ActC w G a cs → cs.length = 5 := by
  rintro a cs ⟨⟨v, rfl, _⟩, _⟩; rfl
def Acts (w : World) (G : Nat → Prop) (v : Value) (l : List A) : Prop := ∃ A c xs, v = .slice A l.length c ∧ l.length ≤ c ∧ c ≤ maxLen ∧ Rd w G A xs ∧ Els (ActC w G) l xs
theorem acts_open {cs : List Value} {y : DataW H × List MemPlace} (h : DataW.trod enc Try.prog w base spare held fuel 22 cs = some y) : ∃ v l, cs = [v] ∧ Acts w (Old w) v l := by
  rcases Go.Deep.open_slice Try.underlying22 h with ⟨rfl, _⟩ | ⟨a, len, cap, m, n, D, Pl, rfl, _, hl, hcm, hm, _, hi⟩
  · exact ⟨_, [], rfl, none, 0, [], rfl, Nat.le_refl _, Nat.zero_le _, Rd.none_ _ _ _, rfl⟩
  · have hC : Try.prog.cellsOf 34 = 5 := by kernel_rfl
    obtain ⟨l, xs, h1, h2, h3, h4⟩ := els_open (ActC w (Old w)) 5 w a len (fun i hil => by
      obtain ⟨cs', g1, g2⟩ := hi i (by rw [hm]; split <;> omega)
      rw [hC] at g1
      obtain ⟨_, hlen, hat⟩ := World.cells?_some g1
      match cs', hlen with
      | [c0, c1, c2, c3, c4], _ =>
        obtain ⟨xs, n', _, _, _, _, hf⟩ := DataW.trod_struct Try.underlying34 g2
        have hxl : xs.length = 5 := by assumption
        have cI : Try.prog.cellsOf 3 = 1 := by kernel_rfl
        have cS : Try.prog.cellsOf 9 = 1 := by kernel_rfl
        have cR : Try.prog.cellsOf 32 = 1 := by kernel_rfl
        have key : ∀ (i : Nat) (hi : i < xs.length) (t : TypeId) (o : Nat), (DataW.trod enc Try.prog w base spare held n' t (List.take (Try.prog.cellsOf t) (List.drop o [c0, c1, c2, c3, c4])) = xs[i]?) → Try.prog.cellsOf t = 1 → DataW.trod enc Try.prog w base spare held n' t (List.take 1 (List.drop o [c0, c1, c2, c3, c4])) = some (xs[i]'hi) := fun i hi t o h hc => by
          rw [hc, List.getElem?_eq_getElem hi] at h
          exact h
        obtain ⟨k0, e0, _, w0⟩ := DataW.trod_int Try.underlying3 (key 0 (by omega) _ 0 (hf 0 _ rfl) cI)
        obtain ⟨k1, e1, _, w1⟩ := DataW.trod_int Try.underlying3 (key 1 (by omega) _ 1 (hf 1 _ rfl) cI)
        obtain ⟨k2, e2, _, w2⟩ := DataW.trod_int Try.underlying3 (key 2 (by omega) _ 2 (hf 2 _ rfl) cI)
        obtain ⟨s, e3, _, w3⟩ := DataW.trod_string Try.underlying9 (key 3 (by omega) _ 3 (hf 3 _ rfl) cS)
        obtain ⟨v, b, e4, hb⟩ := rows_open (key 4 (by omega) _ 4 (hf 4 _ rfl) cR)
        simp only [List.drop_zero, List.drop_succ_cons, List.take_succ_cons, List.take_zero, List.cons.injEq, and_true] at e0 e1 e2 e3 e4
        subst e0 e1 e2 e3 e4
        obtain ⟨nl, rfl⟩ : ∃ l : List UInt8, s = ⟨l.toArray⟩ := ⟨s.data.toList, by cases s; simp⟩
        have b64 : ∀ k : Int, (Lit.int .i64 k).wf = true → i64 k := fun k h => by
          simp [Lit.wf, IntKind.min, IntKind.max, IntKind.signed, IntKind.bits] at h
          unfold i64
          omega
        refine ⟨⟨k0, k1, k2, nl, b⟩, _, rfl, ⟨⟨_, rfl, hb⟩, b64 _ w0, b64 _ w1, b64 _ w2, ?_⟩, fun j u hu => ?_⟩
        · have h3 : nl.toArray.size ≤ maxLen := w3
          simpa using h3
        · have hj : j < 5 := by
            rcases Nat.lt_or_ge j 5 with h | h
            · exact h
            · rw [List.getElem?_eq_none (by simpa using h)] at hu; cases hu
          have := hat j hj
          rw [this]
          exact hu)
    refine ⟨_, l, rfl, some a, cap, xs, by rw [h1], by rw [h1]; exact hl, hcm, fun hn => ⟨a, rfl, ?_, ?_, h4⟩, h3⟩
    · have h0 : 0 < xs.length := List.length_pos_iff.2 hn
      have := World.block_lt_of_cell? w _ (h4 0 _ (List.getElem?_eq_getElem h0))
      rwa [block_add] at this
    · have h0 : 0 < xs.length := List.length_pos_iff.2 hn
      have := World.block_lt_of_cell? w _ (h4 0 _ (List.getElem?_eq_getElem h0))
      rwa [block_add] at this
end
end Vs
end Go.Proofs.Ytiacpopgnmledaa
