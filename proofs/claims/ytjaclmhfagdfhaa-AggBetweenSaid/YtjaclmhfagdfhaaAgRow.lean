/-
  ROWS OF VALUES: what a slice of Vals holds, as a list; a row of the call's own; a row of Vals that comes in.
-/
import Derived.Test.YtjaclmhfagdfhaaRows
import Derived.Test.YtjaclmhfagdfhaaMeApp
import Derived.WalkKit
import Derived.WalkSpells
import Derived.WalkLawsBesides
import Derived.Deep.QuietTactic
import Derived.BigQuiet
import Derived.Lib.QuietBelow
import Derived.Lib.Hide
import Derived.IntWalk
import Derived.Deep.RegionHeld3
import Derived.Laws.MakeOwn
import Derived.Test.YtjaclmhfagdfhaaFxAdd
namespace Go.Proofs.Ytjaclmhfagdfhaa
open Go.RowKit Go.Sort
open Fx (Vl)
open Me

theorem own_slice {base : Nat} {w : World} {v : Value} {e : TypeId} {s n : Nat} {xs : List Value} (h : w.ownsRow base e s v n xs) : ∃ A n c, v = .slice A n c := by
  rcases h.2 with ⟨rfl, _⟩ | ⟨g', cap, cur, rfl, _⟩
  · exact ⟨_, _, _, rfl⟩
  · exact ⟨_, _, _, rfl⟩
theorem lowBox' {w W : World} {o : Obj} (h : Below (w.heap.size + 1) (w.alloc o) W) : Below w.heap.size w W := ((Below.refl _ _).alloc (Nat.le_refl _) _).trans (h.mono (Nat.le_succ _))
theorem infoVal : (Try.prog.info? 24).map (fun i => (i.zero, i.size, i.bytes)) = some (some (.agg #[.bool false, .int .i64 0]), 2, 16) := by kernel_rfl

def cellsOf (l : List Vl) : List Value := l.flatMap fun v => [.bool v.ok, .int .i64 v.n]
theorem cellsOf_length (l : List Vl) : (cellsOf l).length = l.length * 2 := by
  induction l with
  | nil => rfl
  | cons v l ih => simp only [cellsOf, List.flatMap_cons, List.length_append, List.length_cons, List.length_nil] at *; omega
theorem cellsOf_even (l : List Vl) : ∀ i (h : i < l.length), (cellsOf l)[i * 2]? = some (.bool l[i].ok) := by
  induction l with
  | nil => intro i h; cases h
  | cons v l ih =>
    intro i h
    cases i with
    | zero => rfl
    | succ i =>
      have := ih i (by simpa using h)
      have e : (i + 1) * 2 = i * 2 + 1 + 1 := by omega
      rw [e]
      show (cellsOf l)[i * 2]? = _
      exact this
theorem cellsOf_odd (l : List Vl) : ∀ i (h : i < l.length), (cellsOf l)[i * 2 + 1]? = some (.int .i64 l[i].n) := by
  induction l with
  | nil => intro i h; cases h
  | cons v l ih =>
    intro i h
    cases i with
    | zero => rfl
    | succ i =>
      have := ih i (by simpa using h)
      have e : (i + 1) * 2 + 1 = i * 2 + 1 + 1 + 1 := by omega
      rw [e]
      show (cellsOf l)[i * 2 + 1]? = _
      exact this
theorem cellsOf_one (l : List Vl) : ∀ u ∈ cellsOf l, u.oneCell' = true := by
  intro u hu
  simp only [cellsOf, List.mem_flatMap] at hu
  obtain ⟨v, _, hv⟩ := hu
  simp at hv
  rcases hv with rfl | rfl <;> rfl
theorem cellsOf_at {w : World} {b off : Nat} {l : List Vl} (hv : Vals w b off l) : ∀ j u, (cellsOf l)[j]? = some u → w.cell? ((⟨b, off, none⟩ : Addr).add j) = some u := by
  intro j u hj
  have hlt : j < l.length * 2 := by
    have := (List.getElem?_eq_some_iff.1 hj).1
    rwa [cellsOf_length] at this
  rw [show (⟨b, off, none⟩ : Addr).add j = ⟨b, off + j, none⟩ by simp [Addr.add]]
  by_cases h2 : j % 2 = 0
  · have e : j = j / 2 * 2 := by omega
    have h := cellsOf_even l (j / 2) (by omega)
    rw [← e, hj] at h
    rw [e, hv.ok (j / 2) (by omega), h]
  · have e : j = j / 2 * 2 + 1 := by omega
    have h := cellsOf_odd l (j / 2) (by omega)
    rw [← e, hj] at h
    rw [e, ← Nat.add_assoc, hv.n (j / 2) (by omega), h]


theorem cellsOf_append (l m : List Vl) : cellsOf (l ++ m) = cellsOf l ++ cellsOf m := by simp [cellsOf]
theorem cellsOf_single (v : Vl) : cellsOf [v] = [.bool v.ok, .int .i64 v.n] := rfl

/-- A slice of Vals, nil and empty ones too, as a list. -/
def Sl (w : World) (v : Value) (l : List Vl) : Prop := (l = [] ∧ ∃ x cap, v = .slice x 0 cap) ∨ (0 < l.length ∧ ∃ b off cap, v = .slice (some ⟨b, off, none⟩) l.length cap ∧ Vals w b off l)
theorem Sl.below {w w' : World} {v : Value} {l : List Vl} (h : Sl w v l) (hb : Below w.heap.size w w') : Sl w' v l := by
  rcases h with h | ⟨h0, b, off, cap, e, hv⟩
  · exact .inl h
  · exact .inr ⟨h0, b, off, cap, e, hv.below hb⟩
theorem Sl.form {w : World} {v : Value} {l : List Vl} (h : Sl w v l) : ∃ A c, v = .slice A l.length c := by
  rcases h with ⟨rfl, x, cap, rfl⟩ | ⟨_, b, off, cap, rfl, _⟩
  · exact ⟨_, _, rfl⟩
  · exact ⟨_, _, rfl⟩
theorem Sl.nil (w : World) (x : Option Addr) (cap : Nat) : Sl w (.slice x 0 cap) [] := .inl ⟨rfl, x, cap, rfl⟩
theorem Sl.some {w : World} {b off cap : Nat} {l : List Vl} (h0 : 0 < l.length) (h : Vals w b off l) : Sl w (.slice (some ⟨b, off, none⟩) l.length cap) l := .inr ⟨h0, b, off, cap, rfl, h⟩

/-- A row of Vals of the call's own. -/
def OwnV (base : Nat) (w : World) (v : Value) (l : List Vl) : Prop := w.ownsRow base 24 2 v l.length (cellsOf l)
theorem OwnV.lt {base : Nat} {w : World} {v : Value} {l : List Vl} (h : OwnV base w v l) : ∀ g, v.ownBlock = some g → base ≤ g ∧ g < w.heap.size := by
  intro g hg
  rcases h.2 with ⟨rfl, _⟩ | ⟨g', cap, cur, rfl, hb, hh, _⟩
  · cases hg
  · have : g' = g := by simpa [Value.ownBlock] using hg
    subst this
    exact ⟨hb, (Array.getElem?_eq_some_iff.1 hh).1⟩
theorem OwnV.nil (a : Nat) (w : World) : OwnV a w (.slice none 0 0) [] := ⟨rfl, .inl ⟨rfl, rfl⟩⟩
theorem OwnV.below {a : Nat} {w w' : World} {v : Value} {l : List Vl} (h : OwnV a w v l) (k : Below w.heap.size w w') : OwnV a w' v l :=
  owns_keep h fun g hg => k.block g (h.lt g hg).2
theorem OwnV.slice {a : Nat} {w : World} {v : Value} {l : List Vl} (h : OwnV a w v l) : ∃ A c, v = .slice A l.length c := by
  rcases h.2 with ⟨rfl, h0⟩ | ⟨g', cap, cur, rfl, _⟩
  · exact ⟨none, 0, by rw [h0]⟩
  · exact ⟨_, _, rfl⟩
theorem OwnV.more {base : Nat} {w : World} {v : Value} {l : List Vl} {ok : Bool} {n : Int} (h : w.ownsRow base 24 2 v (l.length + 1) (cellsOf l ++ [.bool ok, .int .i64 n])) : OwnV base w v (l ++ [⟨ok, n⟩]) := by
  unfold OwnV
  rw [List.length_append, cellsOf_append, cellsOf_single]
  exact h
theorem OwnV.sl {base : Nat} {w : World} {v : Value} {l : List Vl} (h : OwnV base w v l) : Sl w v l := by
  obtain ⟨hlen, ⟨rfl, h0⟩ | ⟨g, cap, cur, rfl, hb, hg, hle, hm, hs, hx⟩⟩ := h
  · exact .inl ⟨List.eq_nil_of_length_eq_zero h0, none, 0, rfl⟩
  · by_cases h0 : l.length = 0
    · have e := List.eq_nil_of_length_eq_zero h0
      subst e
      exact .inl ⟨rfl, _, _, rfl⟩
    · refine .inr ⟨by omega, g, 0, cap, rfl, (Array.getElem?_eq_some_iff.1 hg).1, ?_, ?_⟩
      · intro i hi
        rw [Nat.zero_add, ← cellsOf_even l i hi, ← hx, List.getElem?_take, if_pos (by rw [cellsOf_length] at hlen; omega)]
        simp [World.cell?, hg]
      · intro i hi
        rw [Nat.zero_add, ← cellsOf_odd l i hi, ← hx, List.getElem?_take, if_pos (by rw [cellsOf_length] at hlen; omega)]
        simp [World.cell?, hg]

/-- What a slice of Vals reads as, for an append. -/
theorem Sl.rd {w : World} {A : Option Addr} {n c : Nat} {l : List Vl} (h : Sl w (.slice A n c) l) : n = l.length ∧ Rd w (fun _ => True) A (cellsOf l) := by
  rcases h with ⟨rfl, x, cap, e⟩ | ⟨h0, b, off, cap, e, hv⟩
  · injection e with e1 e2 e3
    exact ⟨e2, fun hne => absurd rfl hne⟩
  · injection e with e1 e2 e3
    subst e1 e2 e3
    exact ⟨rfl, fun _ => ⟨_, rfl, hv.lt, trivial, cellsOf_at hv⟩⟩

theorem adN (b off j : Nat) : (⟨b, off, none⟩ : Addr).add j = ⟨b, off + j, none⟩ := by simp [Addr.add]

/-- Every row of Vals that comes in. -/
theorem sl_in (x : Option Addr) (len cap : Nat) (w : World) (hx : (x = none ∧ len = 0 ∧ cap = 0) ∨ (∃ a : Addr, x = some a ∧ ∀ i, i < len → ∃ (ok : Bool) (n : Int), w.cell? (a.add (i * 2)) = some (.bool ok) ∧ w.cell? (a.add (i * 2 + 1)) = some (.int .i64 n))) :
    ∃ l : List Vl, l.length = len ∧ Sl w (.slice x len cap) l := by
  rcases hx with ⟨rfl, rfl, rfl⟩ | ⟨a, rfl, hc⟩
  · exact ⟨[], rfl, Sl.nil _ _ _⟩
  · by_cases h0 : len = 0
    · subst h0; exact ⟨[], rfl, Sl.nil _ _ _⟩
    · obtain ⟨b, off, spot⟩ := a
      obtain ⟨ok0, n0, hk0, _⟩ := hc 0 (by omega)
      have hspot : spot = none := by simpa [Addr.add] using World.cell?_spot hk0
      subst hspot
      obtain ⟨l, hlen, hl2⟩ : ∃ l : List Vl, l.length = len ∧ ∀ i (h : i < l.length), w.cell? ⟨b, off + i * 2, none⟩ = some (.bool l[i].ok) ∧ w.cell? ⟨b, off + i * 2 + 1, none⟩ = some (.int .i64 l[i].n) := by
        have key : ∀ m, m ≤ len → ∃ l : List Vl, l.length = m ∧ ∀ i (h : i < l.length), w.cell? ⟨b, off + i * 2, none⟩ = some (.bool l[i].ok) ∧ w.cell? ⟨b, off + i * 2 + 1, none⟩ = some (.int .i64 l[i].n) := by
          intro m
          induction m with
          | zero => intro _; exact ⟨[], rfl, fun i h => by cases h⟩
          | succ m ih =>
            intro hm
            obtain ⟨l, e, hi⟩ := ih (by omega)
            obtain ⟨ok, n, c0, c1⟩ := hc m (by omega)
            refine ⟨l ++ [⟨ok, n⟩], by simp [e], fun i h => ?_⟩
            by_cases him : i < l.length
            · rw [List.getElem_append_left him]; exact hi i him
            · have him2 : i = l.length := by simp at h; omega
              subst him2
              rw [List.getElem_append_right (Nat.le_refl _)]
              rw [adN] at c0 c1
              simp only [e, Nat.sub_self, List.getElem_cons_zero]
              exact ⟨c0, by rw [Nat.add_assoc]; exact c1⟩
        exact key len (Nat.le_refl _)
      refine ⟨l, hlen, ?_⟩
      subst hlen
      exact Sl.some (by omega) ⟨World.block_lt_of_cell? w _ (hl2 0 (by omega)).1, fun i h => (hl2 i h).1, fun i h => (hl2 i h).2⟩
end Go.Proofs.Ytjaclmhfagdfhaa
