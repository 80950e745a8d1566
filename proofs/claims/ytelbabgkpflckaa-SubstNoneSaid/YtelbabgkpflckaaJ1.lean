/-
  RxPure: CHAPTER 11, PLAIN: how the program reads an expression and what instructions it makes of it; no program is named here.
  PkPure: CHAPTER 12, PLAIN: runs of a program, one path behind the other (the document's way) and all paths at once, offset by offset (the program's way): the same first path. No program is named here.
-/
import Derived.Below

set_option linter.unusedSimpArgs false
set_option linter.unusedVariables false
namespace Go.Proofs.Ytelbabgkpflckaa
namespace Rx

/-- An instruction. -/
structure In where
  op : Int
  x : Int
  y : Int
  p : List UInt8
  deriving DecidableEq

/-! ## sets: which bytes belong to it, told by their numbers -/
abbrev St := Nat → Bool
def none_ : St := fun _ => false
def add (s : St) (lo hi : Nat) : St := fun i => s i || (decide (lo ≤ i) && decide (i ≤ hi))
def join (s c : St) : St := fun i => s i || c i
def inv (s : St) : St := fun i => !s i
/-- The least and the greatest byte of each run: what place k adds. -/
def pairAt (s : St) (k : Nat) : List UInt8 :=
  if s k then (if k = 0 ∨ s (k - 1) = false then [UInt8.ofNat k] else []) ++ (if k = 255 ∨ s (k + 1) = false then [UInt8.ofNat k] else []) else []
def pairsTo (s : St) : Nat → List UInt8
  | 0 => []
  | k + 1 => pairsTo s k ++ pairAt s k
def pairs (s : St) : List UInt8 := pairsTo s 256
/-- Is a byte in one of the runs? -/
def has : List UInt8 → UInt8 → Bool
  | a :: b :: r, c => (decide (a ≤ c) && decide (c ≤ b)) || has r c
  | _, _ => false

/-! ## what is read -/
def wordB (c : UInt8) : Bool := (decide (48 ≤ c.toNat) && decide (c.toNat ≤ 57)) || (decide (65 ≤ c.toNat) && decide (c.toNat ≤ 90)) || (decide (97 ≤ c.toNat) && decide (c.toNat ≤ 122))
def digitS : St := add none_ 48 57
def wordS : St := add (add (add (add none_ 48 57) 65 90) 97 122) 95 95
def spaceS : St := add (add none_ 9 13) 32 32
/-- The byte class of a letter. -/
def cls (c : UInt8) : Option St :=
  if c = 100 then some digitS else if c = 68 then some (inv digitS)
  else if c = 119 then some wordS else if c = 87 then some (inv wordS)
  else if c = 115 then some spaceS else if c = 83 then some (inv spaceS) else none
def classOf : List UInt8 → Option St
  | a :: c :: _ => if a = 92 then cls c else none
  | _ => none
def starts (c : UInt8) : List UInt8 → Bool
  | b :: _ => b == c
  | [] => false
def signB (c : UInt8) : Bool := c == 42 || c == 43 || c == 63
/-- A byte that stands for itself, with its stroke. -/
def takeByte : List UInt8 → Option (UInt8 × List UInt8)
  | [] => none
  | b :: r => if b = 92 then (match r with
      | [] => none
      | c :: r2 => if wordB c then none else some (c, r2)) else some (b, r)
def isAlone : List UInt8 → Bool
  | b :: r => b == 45 && ((classOf r).isSome || starts 93 r)
  | [] => false
def isRange (s : List UInt8) : Bool := starts 45 s && !isAlone s && !isAlone (s.drop 1)
/-- The items of a bracket expression. -/
def items : Nat → Bool → Bool → List UInt8 → St → Option (St × List UInt8)
  | 0, _, _, _, _ => none
  | n + 1, aft, fst, s, f =>
    if !fst && starts 93 s then some (f, s.drop 1)
    else match classOf s with
      | some c => items n true false (s.drop 2) (join f c)
      | none => match takeByte s with
        | none => none
        | some (lo, r) =>
          if !(isAlone s || (aft && starts 45 s)) && isRange r then (match takeByte (r.drop 1) with
            | none => none
            | some (hi, r2) => if hi < lo then none else items n false false r2 (add f lo.toNat hi.toNat))
          else items n false false r (add f lo.toNat lo.toNat)
def bracket (s : List UInt8) : Option (St × List UInt8) :=
  if starts 94 s then (items (s.length + 1) false true (s.drop 1) none_).map fun x => (inv x.1, x.2)
  else items (s.length + 1) false true s none_
/-- A set of bytes. -/
def set : List UInt8 → Option (St × List UInt8)
  | [] => none
  | b :: r => if b = 46 then some (inv (add none_ 10 10), r)
    else if b = 91 then bracket r
    else match classOf (b :: r) with
      | some c => some (c, r.drop 1)
      | none => if signB b then none else (takeByte (b :: r)).map fun x => (add none_ x.1.toNat x.1.toNat, x.2)

/-! ## instructions -/
def splitI (a b : Int) (lazy : Bool) : In := if lazy then ⟨2, b, a, []⟩ else ⟨2, a, b, []⟩
def saved (k : Nat) (c : List In) : List In := ⟨4, ((2 * k : Nat) : Int), 0, []⟩ :: (c ++ [⟨4, ((2 * k + 1 : Nat) : Int), 0, []⟩])
def repeated (x : List In) (sign : UInt8) (lazy : Bool) : List In :=
  if sign = 42 then splitI 1 ((x.length + 2 : Nat) : Int) lazy :: (x ++ [⟨3, -((x.length + 1 : Nat) : Int), 0, []⟩])
  else if sign = 43 then x ++ [splitI (-(x.length : Int)) 1 lazy]
  else splitI 1 ((x.length + 1 : Nat) : Int) lazy :: x
def choice : List (List In) → List In
  | [] => []
  | [b] => b
  | b :: c :: r => ⟨2, 1, ((b.length + 2 : Nat) : Int), []⟩ :: (b ++ ⟨3, (((choice (c :: r)).length + 1 : Nat) : Int), 0, []⟩ :: choice (c :: r))
/-! ## expressions: an error's number, or instructions, what is left, the groups -/
abbrev Res := Except Int (List In × List UInt8 × Nat)
section
variable (E : List UInt8 → Nat → Nat → Res)
def groupE (s : List UInt8) (g d : Nat) : Res :=
  if d = 64 then .error 12
  else if starts 63 s && starts 58 (s.drop 1) then (match E (s.drop 2) g (d + 1) with
      | .error e => .error e
      | .ok (c, r, g2) => if starts 41 r then .ok (c, r.drop 1, g2) else .error 8)
    else (match E s (g + 1) (d + 1) with
      | .error e => .error e
      | .ok (c, r, g2) => if starts 41 r then .ok (saved (g + 1) c, r.drop 1, g2) else .error 8)
def atomE : List UInt8 → Nat → Nat → Res
  | [], _, _ => .error 8
  | b :: r, g, d => if b = 40 then groupE E r g d
    else if b = 94 then .ok ([⟨5, 0, 0, []⟩], r, g)
    else if b = 36 then .ok ([⟨6, 0, 0, []⟩], r, g)
    else match set (b :: r) with
      | none => .error 8
      | some (f, r2) => .ok ([⟨1, 0, 0, pairs f⟩], r2, g)
/-- The sign that may follow, and whether it is lazy. -/
def rep (x : List In) : List UInt8 → List In × List UInt8
  | [] => (x, [])
  | c :: r => if signB c then (if starts 63 r then (repeated x c true, r.drop 1) else (repeated x c false, r)) else (x, c :: r)
def pieceE (s : List UInt8) (g d : Nat) : Res := match atomE E s g d with
  | .error e => .error e
  | .ok (x, r, g2) => .ok ((rep x r).1, (rep x r).2, g2)
def stops (s : List UInt8) : Bool := s.isEmpty || starts 124 s || starts 41 s
def branchE : Nat → List In → List UInt8 → Nat → Nat → Res
  | 0, _, _, _, _ => .error 8
  | n + 1, acc, s, g, d => if stops s then .ok (acc, s, g) else match pieceE E s g d with
    | .error e => .error e
    | .ok (x, r, g2) => branchE n (acc ++ x) r g2 d
def waysE : Nat → List (List In) → List UInt8 → Nat → Nat → Res
  | 0, _, _, _, _ => .error 8
  | n + 1, bs, s, g, d => match branchE E (s.length + 1) [] s g d with
    | .error e => .error e
    | .ok (b, r, g2) => if starts 124 r then waysE n (bs ++ [b]) (r.drop 1) g2 d else .ok (choice (bs ++ [b]), r, g2)
end
def expr : Nat → List UInt8 → Nat → Nat → Res
  | 0, _, _, _ => .error 8
  | n + 1, s, g, d => waysE (expr n) (s.length + 1) [] s g d
end Rx
end Go.Proofs.Ytelbabgkpflckaa

namespace Go.Proofs.Ytelbabgkpflckaa
namespace Pk
open Rx (In)

/-- What is recorded. -/
abbrev Row := List Int
def put (r : Row) (i : Int) (k : Nat) : Row := if 0 ≤ i ∧ i < (r.length : Int) then r.set i.toNat (k : Int) else r
theorem put_len (r : Row) (i : Int) (k : Nat) : (put r i k).length = r.length := by unfold put; split <;> simp
def fetch (L : List In) (h : Int) : Option In := if 0 ≤ h then L[h.toNat]? else none
theorem fetch_some {L : List In} {h : Int} {x : In} (e : fetch L h = some x) : 0 ≤ h ∧ h.toNat < L.length ∧ L[h.toNat]? = some x := by
  unfold fetch at e
  split at e
  · rename_i h0
    exact ⟨h0, (List.getElem?_eq_some_iff.1 e).1, e⟩
  · cases e

/-- What an instruction does: the path ends, a Match, the next offset, or it goes on at this offset at one or two instructions. -/
inductive Out where
  | dead
  | hit
  | next
  | go (m : List (Int × Row))
def act (t : List UInt8) (k : Nat) (x : In) (h : Int) (r : Row) : Out :=
  if x.op = 1 then (match t[k]? with
    | some c => if Rx.has x.p c then .next else .dead
    | none => .dead)
  else if x.op = 2 then .go [(x.x, r), (x.y, r)]
  else if x.op = 3 then .go [(x.x, r)]
  else if x.op = 4 then .go [(h + 1, put r x.x k)]
  else if x.op = 5 then (if k = 0 then .go [(h + 1, r)] else .dead)
  else if x.op = 6 then (if k = t.length then .go [(h + 1, r)] else .dead)
  else if x.op = 7 then .hit
  else .dead
theorem act_go_len {t : List UInt8} {k : Nat} {x : In} {h : Int} {r : Row} {m : List (Int × Row)} (e : act t k x h r = .go m) : m.length ≤ 2 := by
  unfold act at e
  repeat' split at e
  all_goals first | (cases e; done) | (cases e; simp)
theorem act_next {t : List UInt8} {k : Nat} {x : In} {h : Int} {r : Row} (e : act t k x h r = .next) : k < t.length := by
  unfold act at e
  repeat' split at e
  all_goals first | (cases e; done) | skip
  rename_i hc _
  exact (List.getElem?_eq_some_iff.1 hc).1
/-- Where an instruction leads does not depend on what is recorded. -/
theorem act_heads (t : List UInt8) (k : Nat) (x : In) (h : Int) (r q : Row) : (act t k x h r = .dead ∧ act t k x h q = .dead) ∨ (act t k x h r = .hit ∧ act t k x h q = .hit) ∨ (act t k x h r = .next ∧ act t k x h q = .next) ∨ (∃ m n, act t k x h r = .go m ∧ act t k x h q = .go n ∧ m.map Prod.fst = n.map Prod.fst) := by
  unfold act
  repeat' split
  all_goals first | exact .inl ⟨rfl, rfl⟩ | exact .inr (.inl ⟨rfl, rfl⟩) | exact .inr (.inr (.inl ⟨rfl, rfl⟩)) | exact .inr (.inr (.inr ⟨_, _, rfl, rfl, rfl⟩))

/-! ## what was executed: counted -/
def free (m : Nat) (A : Nat → Bool) : Nat := (List.range m).countP fun i => !A i
def mark (A : Nat → Bool) (i : Nat) : Nat → Bool := fun j => A j || decide (j = i)
theorem free_succ (m : Nat) (A : Nat → Bool) : free (m + 1) A = free m A + (if A m then 0 else 1) := by
  unfold free
  rw [List.range_succ, List.countP_append]
  congr 1
  cases h : A m <;> simp [h]
theorem free_mark_out (m : Nat) (A : Nat → Bool) (i : Nat) (h : m ≤ i) : free m (mark A i) = free m A := by
  unfold free
  apply List.countP_congr
  intro j hj
  have := List.mem_range.1 hj
  have hne : ¬ j = i := by omega
  simp [mark, hne]
theorem free_mark (m : Nat) (A : Nat → Bool) (i : Nat) (h : i < m) (hA : A i = false) : free m (mark A i) + 1 = free m A := by
  induction m with
  | zero => omega
  | succ m ih =>
    rw [free_succ, free_succ]
    by_cases e : i = m
    · subst e
      rw [free_mark_out _ _ _ (Nat.le_refl _)]
      simp [mark, hA]
    · have := ih (by omega)
      have hm : mark A i m = A m := by
        have hne : ¬ m = i := fun h => e h.symm
        simp [mark, hne]
      rw [hm]
      omega

/-! ## one path behind the other -/
abbrev Seen := Nat → Nat → Bool
abbrev Ent := Int × Nat × Row
def see (S : Seen) (p a : Nat) : Seen := fun q b => S q b || (decide (q = p) && decide (b = a))
def lin (N : Nat) (S : Seen) : Nat → Bool := fun i => S (i / (N + 1)) (i % (N + 1))
theorem lin_at (N : Nat) (S : Seen) (p a : Nat) (h : a ≤ N) : lin N S (p * (N + 1) + a) = S p a := by
  unfold lin
  have e1 : (p * (N + 1) + a) / (N + 1) = p := by rw [Nat.mul_comm, Nat.mul_add_div (by omega)]; rw [Nat.div_eq_of_lt (by omega)]; rfl
  have e2 : (p * (N + 1) + a) % (N + 1) = a := by rw [Nat.mul_comm, Nat.mul_add_mod]; exact Nat.mod_eq_of_lt (by omega)
  rw [e1, e2]
theorem lin_see (N : Nat) (S : Seen) (p a : Nat) (h : a ≤ N) : lin N (see S p a) = mark (lin N S) (p * (N + 1) + a) := by
  funext i
  unfold lin see mark
  congr 1
  have e : i = (i / (N + 1)) * (N + 1) + i % (N + 1) := by rw [Nat.mul_comm]; exact (Nat.div_add_mod i (N + 1)).symm
  have hlt : i % (N + 1) < N + 1 := Nat.mod_lt _ (by omega)
  by_cases e1 : i / (N + 1) = p
  · by_cases e2 : i % (N + 1) = a
    · have : i = p * (N + 1) + a := by rw [e, e1, e2]
      rw [e1, e2]
      simp [this]
    · have : ¬ i = p * (N + 1) + a := by intro hh; rw [e, e1] at hh; omega
      simp [e2, this]
  · have : ¬ i = p * (N + 1) + a := by
      intro hh
      apply e1
      rw [hh, Nat.mul_comm, Nat.mul_add_div (by omega), Nat.div_eq_of_lt (by omega)]
      rfl
    simp [e1, this]

section
variable (L : List In) (t : List UInt8)
/-- How much is left to do. -/
def mu (S : Seen) (l : List Ent) : Nat := 2 * free (L.length * (t.length + 1)) (lin t.length S) + l.length
theorem mu_see {S : Seen} {p a : Nat} (hp : p < L.length) (ha : a ≤ t.length) (hS : S p a = false) : free (L.length * (t.length + 1)) (lin t.length (see S p a)) + 1 = free (L.length * (t.length + 1)) (lin t.length S) := by
  rw [lin_see _ _ _ _ ha]
  apply free_mark
  · have : p * (t.length + 1) + (t.length + 1) ≤ L.length * (t.length + 1) := by
      have := Nat.mul_le_mul_right (t.length + 1) (show p + 1 ≤ L.length by omega)
      rw [Nat.add_mul] at this
      omega
    omega
  · rw [lin_at _ _ _ _ ha]; exact hS
def dfs (S : Seen) (l : List Ent) : Option Row × Seen :=
  match l with
  | [] => (none, S)
  | (h, k, r) :: l =>
    match hx : fetch L h with
    | none => dfs S l
    | some x =>
      if hs : S h.toNat k = true ∨ t.length < k then dfs S l
      else match ha : act t k x h r with
        | .dead => dfs (see S h.toNat k) l
        | .hit => (some r, see S h.toNat k)
        | .next => dfs (see S h.toNat k) ((h + 1, k + 1, r) :: l)
        | .go m => dfs (see S h.toNat k) (m.map (fun e => (e.1, k, e.2)) ++ l)
termination_by mu L t S l
decreasing_by
  all_goals
    first
    | (unfold mu; simp; done)
    | (have hf := fetch_some hx
       have hs1 : S h.toNat k = false := by cases e : S h.toNat k <;> simp_all
       have hs2 : k ≤ t.length := by omega
       have := mu_see L t hf.2.1 hs2 hs1
       first
       | (unfold mu; simp only [List.length_cons]; omega)
       | (have hm := act_go_len ha; unfold mu; simp only [List.length_cons, List.length_append, List.length_map]; omega))
end

/-! ## all paths at once: one offset -/
section
variable (L : List In) (t : List UInt8) (k : Nat)
abbrev Res1 := (Nat → Bool) × List (Int × Row) × Option Row
def muL (A : Nat → Bool) (l : List (Int × Row)) : Nat := 2 * free L.length A + l.length
def lev (A : Nat → Bool) (l : List (Int × Row)) : Res1 :=
  match l with
  | [] => (A, [], none)
  | (h, r) :: l =>
    match _hx : fetch L h with
    | none => lev A l
    | some x =>
      if _hs : A h.toNat = true then lev A l
      else match ha : act t k x h r with
        | .dead => lev (mark A h.toNat) l
        | .hit => (mark A h.toNat, [], some r)
        | .next => ((lev (mark A h.toNat) l).1, (h + 1, r) :: (lev (mark A h.toNat) l).2.1, (lev (mark A h.toNat) l).2.2)
        | .go m => lev (mark A h.toNat) (m ++ l)
termination_by muL L A l
decreasing_by
  all_goals
    first
    | (unfold muL; simp; done)
    | (have hf := fetch_some _hx
       have hs1 : A h.toNat = false := by cases e : A h.toNat <;> simp_all
       have := free_mark L.length A h.toNat hf.2.1 hs1
       first
       | (unfold muL; simp only [List.length_cons]; omega)
       | (have hm := act_go_len ha; unfold muL; simp only [List.length_cons, List.length_append]; omega))
end

/-! ## the equations, without proofs in them -/
section
variable {L : List In} {t : List UInt8}
theorem dfs_nil (S : Seen) : dfs L t S [] = (none, S) := by unfold dfs; rfl
theorem dfs_out {S : Seen} {h : Int} {k : Nat} {r : Row} {l : List Ent} (e : fetch L h = none) : dfs L t S ((h, k, r) :: l) = dfs L t S l := by
  rw [dfs]
  split
  · rfl
  · rename_i hx; rw [e] at hx; cases hx
theorem dfs_seen {S : Seen} {h : Int} {k : Nat} {r : Row} {l : List Ent} (e : S h.toNat k = true ∨ t.length < k) : dfs L t S ((h, k, r) :: l) = dfs L t S l := by
  rw [dfs]
  split
  · rfl
  · simp [e]
theorem dfs_act {S : Seen} {h : Int} {k : Nat} {r : Row} {l : List Ent} {x : In} (e : fetch L h = some x) (hs : S h.toNat k = false) (hk : k ≤ t.length) : dfs L t S ((h, k, r) :: l) = (match act t k x h r with
    | .dead => dfs L t (see S h.toNat k) l
    | .hit => (some r, see S h.toNat k)
    | .next => dfs L t (see S h.toNat k) ((h + 1, k + 1, r) :: l)
    | .go m => dfs L t (see S h.toNat k) (m.map (fun e => (e.1, k, e.2)) ++ l)) := by
  rw [dfs]
  split
  · rename_i hx; rw [e] at hx; cases hx
  · rename_i y hx
    rw [e] at hx
    cases hx
    have hn : ¬ (S h.toNat k = true ∨ t.length < k) := by rw [hs]; simp; omega
    rw [dif_neg hn]
    split <;> rename_i ha <;> rw [ha]
variable {k : Nat}
theorem lev_nil (A : Nat → Bool) : lev L t k A [] = (A, [], none) := by unfold lev; rfl
theorem lev_out {A : Nat → Bool} {h : Int} {r : Row} {l : List (Int × Row)} (e : fetch L h = none) : lev L t k A ((h, r) :: l) = lev L t k A l := by
  rw [lev]
  split
  · rfl
  · rename_i hx; rw [e] at hx; cases hx
theorem lev_seen {A : Nat → Bool} {h : Int} {r : Row} {l : List (Int × Row)} (e : A h.toNat = true) : lev L t k A ((h, r) :: l) = lev L t k A l := by
  rw [lev]
  split
  · rfl
  · simp [e]
theorem lev_act {A : Nat → Bool} {h : Int} {r : Row} {l : List (Int × Row)} {x : In} (e : fetch L h = some x) (hs : A h.toNat = false) : lev L t k A ((h, r) :: l) = (match act t k x h r with
    | .dead => lev L t k (mark A h.toNat) l
    | .hit => (mark A h.toNat, [], some r)
    | .next => ((lev L t k (mark A h.toNat) l).1, (h + 1, r) :: (lev L t k (mark A h.toNat) l).2.1, (lev L t k (mark A h.toNat) l).2.2)
    | .go m => lev L t k (mark A h.toNat) (m ++ l)) := by
  rw [lev]
  split
  · rename_i hx; rw [e] at hx; cases hx
  · rename_i y hx
    rw [e] at hx
    cases hx
    have hn : ¬ (A h.toNat = true) := by rw [hs]; simp
    rw [dif_neg hn]
    split <;> rename_i ha <;> rw [ha]
end
end Pk
end Go.Proofs.Ytelbabgkpflckaa
