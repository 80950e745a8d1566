/-
  THE PLAIN MATHEMATICS of agg: many values as one, in five ways; whether enough are known; what lies between; turned around.
-/
import Derived.Test.YtjaclmhfagdfhaaFxAdd
import Derived.Test.YtjaclmhfagdfhaaFxMdPure
namespace Go.Proofs.Ytjaclmhfagdfhaa
open Go.RowKit
open Fx (Vl)
namespace Ag

/-- Those that are known. -/
def kn (l : List Vl) : List Vl := l.filter Fx.num
theorem kn_take (l : List Vl) (k : Nat) (h : k < l.length) : kn (l.take (k + 1)) = if Fx.num l[k] = true then kn (l.take k) ++ [l[k]] else kn (l.take k) := by
  unfold kn
  rw [List.take_succ_eq_append_getElem h, List.filter_append]
  by_cases hn : Fx.num l[k] = true
  · rw [if_pos hn]; simp [hn]
  · rw [if_neg hn]; simp [hn]
theorem kn_len (l : List Vl) : (kn l).length ≤ l.length := List.length_filter_le _ _
theorem kn_take_len (l : List Vl) (k : Nat) : (kn (l.take k)).length ≤ k := Nat.le_trans (kn_len _) (by rw [List.length_take]; omega)
theorem kn_num (l : List Vl) : ∀ v ∈ kn l, Fx.num v = true := fun _ hv => (List.mem_filter.1 hv).2
theorem kn_mem (l : List Vl) : ∀ v ∈ kn l, v ∈ l := fun _ hv => (List.mem_filter.1 hv).1

def mx1 (a b : Vl) : Vl := if a.n < b.n then b else a
def mn1 (a b : Vl) : Vl := if b.n < a.n then b else a
def mx (l : List Vl) : Vl := match l with | [] => Fx.none | x :: r => r.foldl mx1 x
def mn (l : List Vl) : Vl := match l with | [] => Fx.none | x :: r => r.foldl mn1 x
theorem mx_take (l : List Vl) (k : Nat) (h0 : 0 < k) (h : k < l.length) : mx (l.take (k + 1)) = mx1 (mx (l.take k)) l[k] := by
  rw [List.take_succ_eq_append_getElem h]
  cases hl : l.take k with
  | nil => have := congrArg List.length hl; rw [List.length_take, Nat.min_eq_left (Nat.le_of_lt h)] at this; simp at this; omega
  | cons x r => simp [mx, List.foldl_append]
theorem mn_take (l : List Vl) (k : Nat) (h0 : 0 < k) (h : k < l.length) : mn (l.take (k + 1)) = mn1 (mn (l.take k)) l[k] := by
  rw [List.take_succ_eq_append_getElem h]
  cases hl : l.take k with
  | nil => have := congrArg List.length hl; rw [List.length_take, Nat.min_eq_left (Nat.le_of_lt h)] at this; simp at this; omega
  | cons x r => simp [mn, List.foldl_append]
theorem mx_one (l : List Vl) (h : 0 < l.length) : mx (l.take 1) = l[0] := by cases l with | nil => cases h | cons x r => rfl
theorem mn_one (l : List Vl) (h : 0 < l.length) : mn (l.take 1) = l[0] := by cases l with | nil => cases h | cons x r => rfl
theorem mx1_yes {a b : Vl} (h : a.n < b.n) : mx1 a b = b := if_pos h
theorem mx1_no {a b : Vl} (h : ¬ a.n < b.n) : mx1 a b = a := if_neg h
theorem mn1_yes {a b : Vl} (h : b.n < a.n) : mn1 a b = b := if_pos h
theorem mn1_no {a b : Vl} (h : ¬ b.n < a.n) : mn1 a b = a := if_neg h

/-- All of them as one. -/
def tg (kind : Int) (k : List Vl) : Vl :=
  if k.length = 0 then Fx.none
  else if kind = 1 then Fx.div (sum k) (Fx.of ((k.length : Int) * 1000000))
  else if kind = 2 then sum k
  else if kind = 3 then k.getD (k.length - 1) Fx.none
  else if kind = 4 then mx k
  else if kind = 5 then mn k
  else Fx.none
theorem tg_nil (kind : Int) : tg kind [] = Fx.none := rfl
theorem tg_1 {k : List Vl} (h : 0 < k.length) : tg 1 k = Fx.div (sum k) (Fx.of ((k.length : Int) * 1000000)) := by unfold tg; rw [if_neg (Nat.ne_of_gt h), if_pos (Eq.refl (1 : Int))]
theorem tg_2 {k : List Vl} (h : 0 < k.length) : tg 2 k = sum k := by unfold tg; rw [if_neg (Nat.ne_of_gt h), if_neg (by decide), if_pos (Eq.refl (2 : Int))]
theorem tg_3 {k : List Vl} (h : 0 < k.length) : tg 3 k = k[k.length - 1]'(by omega) := by
  unfold tg; rw [if_neg (Nat.ne_of_gt h), if_neg (by decide), if_neg (by decide), if_pos (Eq.refl (3 : Int))]
  rw [List.getD_eq_getElem?_getD, List.getElem?_eq_getElem (by omega)]; rfl
theorem tg_4 {k : List Vl} (h : 0 < k.length) : tg 4 k = mx k := by unfold tg; rw [if_neg (Nat.ne_of_gt h), if_neg (by decide), if_neg (by decide), if_neg (by decide), if_pos (Eq.refl (4 : Int))]
theorem tg_5 {k : List Vl} (h : 0 < k.length) : tg 5 k = mn k := by unfold tg; rw [if_neg (Nat.ne_of_gt h), if_neg (by decide), if_neg (by decide), if_neg (by decide), if_neg (by decide), if_pos (Eq.refl (5 : Int))]
theorem tg_no {kind : Int} {k : List Vl} (h1 : kind ≠ 1) (h2 : kind ≠ 2) (h3 : kind ≠ 3) (h4 : kind ≠ 4) (h5 : kind ≠ 5) : tg kind k = Fx.none := by
  unfold tg; rw [if_neg h1, if_neg h2, if_neg h3, if_neg h4, if_neg h5]; split <;> rfl

def lim (n : Int) : Int := if n < 0 then 0 else if 16777216 < n then 16777216 else n
theorem lim_bd (n : Int) : 0 ≤ lim n ∧ lim n ≤ 16777216 := by
  unfold lim
  split
  · omega
  · split <;> omega
def en (xff known all : Int) : Bool := decide (0 < lim known ∧ lim known ≤ lim all ∧ lim xff * lim all ≤ lim known * 1000000)
def put (kind xff : Int) (l : List Vl) : Vl := if en xff ((kn l).length : Int) (l.length : Int) = true then tg kind (kn l) else Fx.none
end Ag
end Go.Proofs.Ytjaclmhfagdfhaa
