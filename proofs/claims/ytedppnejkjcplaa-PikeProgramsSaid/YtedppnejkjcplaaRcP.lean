/-
  CHAPTER 12, PLAIN: the document's reader of expressions (graticuleref11.Compile) as functions of a state that mirror its text, for expressions without '.', '[' and a stroke; what of a state holds for every expression.
-/
import Derived.Test.YtedppnejkjcplaaPkPure
namespace Go.Proofs.Ytedppnejkjcplaa
namespace Rc
open Rx (In St)
/-- The reader: the expression, how far it is read, how deep, an error; the groups, the program. -/
structure Rr where
  s : List UInt8
  at_ : Nat
  deep : Nat
  err : Int
  g : Nat
  L : List In
def more (r : Rr) (c : UInt8) : Bool := r.s[r.at_]? == some c
def step (r : Rr) (n : Nat) : Rr := { r with at_ := r.at_ + n }
def lay (r : Rr) (x : In) : Rr := { r with L := r.L ++ [x] }
def bad (r : Rr) (e : Int) : Rr := if r.err = 0 then { r with err := e } else r
def mv (by_ : Int) (x : In) : In := { x with x := if x.op = 2 ∨ x.op = 3 then Go.RowKit.wrap64 (x.x + by_) else x.x, y := if x.op = 2 then Go.RowKit.wrap64 (x.y + by_) else x.y }
def moved (l : List In) (by_ : Int) : List In := l.map (mv by_)
def put (r : Rr) (l : List In) : Rr := { r with L := r.L ++ moved l r.L.length }
def special (c : UInt8) : Bool := [92, 94, 36, 46, 124, 63, 42, 43, 40, 41, 91].contains c
section
variable (W : Rr → Rr)
/-- A group, behind its bracket; no: of the sort without a number. -/
def groupB (no : Bool) (r1 : Rr) : Rr :=
  let r2 := if no then step r1 2 else { r1 with g := r1.g + 1 }
  let r3 := { r2 with deep := r2.deep + 1 }
  if 64 < r3.deep then bad r3 12
  else
    let r4 := W (if no then r3 else lay r3 ⟨4, 2 * (r2.g : Int), 0, []⟩)
    if r4.err ≠ 0 then r4
    else if more r4 41 = false then bad r4 8
    else
      let r5 := { step r4 1 with deep := r4.deep - 1 }
      if no then r5 else lay r5 ⟨4, 2 * (r2.g : Int) + 1, 0, []⟩
def group (r0 : Rr) : Rr := groupB W (decide (r0.at_ + 1 + 1 < r0.s.length) && ((r0.s.drop (r0.at_ + 1)).take 2 == [63, 58])) (step r0 1)
def atom (r : Rr) : Rr := match r.s[r.at_]? with
  | none => r
  | some c =>
    if c = 40 then group W r
    else if c = 94 then lay (step r 1) ⟨5, 0, 0, []⟩
    else if c = 36 then lay (step r 1) ⟨6, 0, 0, []⟩
    else if special c = true then bad r 8
    else lay (step r 1) ⟨1, 0, 0, [c, c]⟩
/-- A repetition's instruction. -/
def splitOf (c : UInt8) (lazy : Bool) (fr n : Nat) : In :=
  let s0 : Int × Int := if c = 42 then (fr + 1, fr + 2 + n) else if c = 43 then (fr, fr + n + 1) else (fr + 1, fr + 1 + n)
  if lazy then ⟨2, s0.2, s0.1, []⟩ else ⟨2, s0.1, s0.2, []⟩
/-- What a sign behind an atom makes of the program. -/
def rep (r : Rr) (fr : Nat) (c : UInt8) (lazy : Bool) : Rr :=
  let x := moved (r.L.drop fr) (-(fr : Int))
  let r4 := { r with L := r.L.take fr }
  if c = 43 then lay (put r4 x) (splitOf c lazy fr x.length)
  else
    let r5 := put (lay r4 (splitOf c lazy fr x.length)) x
    if c = 42 then lay r5 ⟨3, fr, 0, []⟩ else r5
def piece (r : Rr) : Rr :=
  let r1 := atom W r
  if r1.err ≠ 0 then r1
  else match r1.s[r1.at_]? with
  | none => r1
  | some c =>
    if c ≠ 42 ∧ c ≠ 43 ∧ c ≠ 63 then r1
    else
      let r2 := step r1 1
      if more r2 63 = true then rep (step r2 1) r.L.length c true else rep r2 r.L.length c false
def row : Nat → Rr → Rr
  | 0, r => r
  | n + 1, r => if r.err ≠ 0 then r else match r.s[r.at_]? with
    | none => r
    | some c => if c = 124 ∨ c = 41 then r else row n (piece W r)
end
def ways : Nat → Rr → Rr
  | 0, r => r
  | n + 1, r =>
    let fr := r.L.length
    let r1 := row (ways n) (r.s.length + 1) r
    if r1.err ≠ 0 ∨ more r1 124 = false then r1
    else
      let r2 := step r1 1
      let a := moved (r2.L.drop fr) (-(fr : Int))
      let r3 := put (lay { r2 with L := r2.L.take fr } ⟨2, fr + 1, fr + 2 + a.length, []⟩) a
      let r4 := ways n (lay r3 ⟨3, 0, 0, []⟩)
      { r4 with L := r4.L.modify r3.L.length fun x => { x with x := r4.L.length } }
/-- What stands behind the whole. -/
def ended (r1 : Rr) : Rr :=
  let r2 := if r1.err = 0 ∧ r1.at_ < r1.s.length then bad r1 8 else r1
  lay (lay r2 ⟨4, 1, 0, []⟩) ⟨7, 0, 0, []⟩
def first_ (s : List UInt8) : Rr := lay ⟨s, 0, 0, 0, 0, []⟩ ⟨4, 0, 0, []⟩
def out (r3 : Rr) : Except Int (Nat × List In) := if r3.err ≠ 0 then .error r3.err else if 1024 < r3.L.length then .error 13 else .ok (r3.g, r3.L)
/-- Compile: an error, or the groups and the program. -/
def compile (s : List UInt8) : Except Int (Nat × List In) :=
  if 4096 < s.length then .error 13 else out (ended (ways (s.length + 1) (first_ s)))

/-! ## what holds of every state -/
structure Ok (r : Rr) : Prop where
  at_ : r.at_ ≤ r.s.length
  len : r.s.length ≤ 4096
  L : r.L.length ≤ 2 * r.at_ + 1
  g : r.g ≤ r.at_
  deep : r.deep ≤ r.at_
  p : ∀ x ∈ r.L, x.p.length ≤ 512
  pos : 0 < r.L.length
/-- Expressions without a class, a stroke, a dot. -/
def Sm (s : List UInt8) : Prop := ∀ c ∈ s, c ≠ 46 ∧ c ≠ 91 ∧ c ≠ 92
/-- A state and one behind it. -/
structure Nx (r r' : Rr) : Prop where
  s : r'.s = r.s
  ok : Ok r'
  at_ : r.at_ ≤ r'.at_
  deep : r'.err = 0 → r'.deep = r.deep
  grow : r.L.length ≤ r'.L.length
theorem Nx.trans {a b c : Rr} (h : Nx a b) (hb : b.err = 0) (k : Nx b c) : Nx a c := ⟨k.s.trans h.s, k.ok, Nat.le_trans h.at_ k.at_, fun e => (k.deep e).trans (h.deep hb), Nat.le_trans h.grow k.grow⟩
theorem Nx.refl {a : Rr} (h : Ok a) : Nx a a := ⟨rfl, h, Nat.le_refl _, fun _ => rfl, Nat.le_refl _⟩
theorem mv_p (b : Int) (x : In) : (mv b x).p = x.p := rfl
theorem moved_len (l : List In) (b : Int) : (moved l b).length = l.length := by unfold moved; simp
theorem moved_p {l : List In} {b : Int} (h : ∀ x ∈ l, x.p.length ≤ 512) : ∀ x ∈ moved l b, x.p.length ≤ 512 := by
  intro x hx
  unfold moved at hx
  obtain ⟨y, hy, rfl⟩ := List.mem_map.1 hx
  exact h y hy
theorem Ok.step {r : Rr} (h : Ok r) (n : Nat) (hn : r.at_ + n ≤ r.s.length) : Ok (step r n) :=
  ⟨hn, h.len, by have := h.L; show r.L.length ≤ 2 * (r.at_ + n) + 1; omega, by have := h.g; show r.g ≤ r.at_ + n; omega, by have := h.deep; show r.deep ≤ r.at_ + n; omega, h.p, h.pos⟩
theorem Ok.bad {r : Rr} (h : Ok r) (e : Int) : Ok (bad r e) := by
  unfold Rc.bad
  split
  · exact ⟨h.at_, h.len, h.L, h.g, h.deep, h.p, h.pos⟩
  · exact h
theorem bad_err {r : Rr} {e : Int} (he : e ≠ 0) : (bad r e).err ≠ 0 := by
  unfold bad
  split
  · exact he
  · assumption
theorem bad_s (r : Rr) (e : Int) : (bad r e).s = r.s := by unfold bad; split <;> rfl
theorem bad_at (r : Rr) (e : Int) : (bad r e).at_ = r.at_ := by unfold bad; split <;> rfl
theorem at_lt {r : Rr} {c : UInt8} (h : r.s[r.at_]? = some c) : r.at_ < r.s.length := (List.getElem?_eq_some_iff.1 h).1
theorem more_lt {r : Rr} {c : UInt8} (h : more r c = true) : r.at_ < r.s.length := by
  unfold more at h
  exact at_lt (by simpa using h)
theorem group_eq (F : Rr → Rr) (s : List UInt8) (i d g : Nat) (L : List In) : group F ⟨s, i, d, 0, g, L⟩ =
    (if (decide (i + 1 + 1 < s.length) && ((s.drop (i + 1)).take 2 == [63, 58])) = true then
      (if 64 < d + 1 then ⟨s, i + 1 + 2, d + 1, 12, g, L⟩ else
        (if (F ⟨s, i + 1 + 2, d + 1, 0, g, L⟩).err ≠ 0 then F ⟨s, i + 1 + 2, d + 1, 0, g, L⟩ else
          if more (F ⟨s, i + 1 + 2, d + 1, 0, g, L⟩) 41 = false then bad (F ⟨s, i + 1 + 2, d + 1, 0, g, L⟩) 8 else
            { F ⟨s, i + 1 + 2, d + 1, 0, g, L⟩ with at_ := (F ⟨s, i + 1 + 2, d + 1, 0, g, L⟩).at_ + 1, deep := (F ⟨s, i + 1 + 2, d + 1, 0, g, L⟩).deep - 1 }))
    else
      (if 64 < d + 1 then ⟨s, i + 1, d + 1, 12, g + 1, L⟩ else
        (if (F ⟨s, i + 1, d + 1, 0, g + 1, L ++ [⟨4, 2 * ((g + 1 : Nat) : Int), 0, []⟩]⟩).err ≠ 0 then F ⟨s, i + 1, d + 1, 0, g + 1, L ++ [⟨4, 2 * ((g + 1 : Nat) : Int), 0, []⟩]⟩ else
          if more (F ⟨s, i + 1, d + 1, 0, g + 1, L ++ [⟨4, 2 * ((g + 1 : Nat) : Int), 0, []⟩]⟩) 41 = false then bad (F ⟨s, i + 1, d + 1, 0, g + 1, L ++ [⟨4, 2 * ((g + 1 : Nat) : Int), 0, []⟩]⟩) 8 else
            lay { F ⟨s, i + 1, d + 1, 0, g + 1, L ++ [⟨4, 2 * ((g + 1 : Nat) : Int), 0, []⟩]⟩ with at_ := (F ⟨s, i + 1, d + 1, 0, g + 1, L ++ [⟨4, 2 * ((g + 1 : Nat) : Int), 0, []⟩]⟩).at_ + 1, deep := (F ⟨s, i + 1, d + 1, 0, g + 1, L ++ [⟨4, 2 * ((g + 1 : Nat) : Int), 0, []⟩]⟩).deep - 1 } ⟨4, 2 * ((g + 1 : Nat) : Int) + 1, 0, []⟩))) := by
  show groupB F _ ⟨s, i + 1, d, 0, g, L⟩ = _
  generalize (decide (i + 1 + 1 < s.length) && ((s.drop (i + 1)).take 2 == [63, 58])) = c
  cases c <;> simp [groupB, step, lay, bad]
theorem modify_len (l : List In) (j : Nat) (f : In → In) : (l.modify j f).length = l.length := List.length_modify ..
theorem modify_p {l : List In} {j : Nat} {n : Int} (h : ∀ x ∈ l, x.p.length ≤ 512) : ∀ x ∈ l.modify j fun x => { x with x := n }, x.p.length ≤ 512 := by
  intro x hx
  obtain ⟨i, hi, rfl⟩ := List.mem_iff_getElem.1 hx
  have hi2 : i < l.length := by rw [modify_len] at hi; exact hi
  rw [List.getElem_modify]
  split
  · exact h l[i] (List.getElem_mem _)
  · exact h l[i] (List.getElem_mem _)
end Rc
end Go.Proofs.Ytedppnejkjcplaa
