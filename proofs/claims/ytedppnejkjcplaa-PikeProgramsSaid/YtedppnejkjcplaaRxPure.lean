/-
  CHAPTER 11, PLAIN: how the program reads an expression and what instructions it makes of it; no program is named here.
-/
import Derived.Below
namespace Go.Proofs.Ytedppnejkjcplaa
namespace Rx

/-- An instruction. -/
structure In where
  op : Int
  x : Int
  y : Int
  p : List UInt8
  deriving DecidableEq

/-! ## sets: which bytes belong to it, told by their numbers -/
abbrev St := Nat → Bool
def none_ : St := fun _ => false
def add (s : St) (lo hi : Nat) : St := fun i => s i || (decide (lo ≤ i) && decide (i ≤ hi))
def join (s c : St) : St := fun i => s i || c i
def inv (s : St) : St := fun i => !s i
/-- The least and the greatest byte of each run: what place k adds. -/
def pairAt (s : St) (k : Nat) : List UInt8 :=
  if s k then (if k = 0 ∨ s (k - 1) = false then [UInt8.ofNat k] else []) ++ (if k = 255 ∨ s (k + 1) = false then [UInt8.ofNat k] else []) else []
def pairsTo (s : St) : Nat → List UInt8
  | 0 => []
  | k + 1 => pairsTo s k ++ pairAt s k
def pairs (s : St) : List UInt8 := pairsTo s 256
/-- Is a byte in one of the runs? -/
def has : List UInt8 → UInt8 → Bool
  | a :: b :: r, c => (decide (a ≤ c) && decide (c ≤ b)) || has r c
  | _, _ => false

/-! ## what is read -/
def wordB (c : UInt8) : Bool := (decide (48 ≤ c.toNat) && decide (c.toNat ≤ 57)) || (decide (65 ≤ c.toNat) && decide (c.toNat ≤ 90)) || (decide (97 ≤ c.toNat) && decide (c.toNat ≤ 122))
def digitS : St := add none_ 48 57
def wordS : St := add (add (add (add none_ 48 57) 65 90) 97 122) 95 95
def spaceS : St := add (add none_ 9 13) 32 32
/-- The byte class of a letter. -/
def cls (c : UInt8) : Option St :=
  if c = 100 then some digitS else if c = 68 then some (inv digitS)
  else if c = 119 then some wordS else if c = 87 then some (inv wordS)
  else if c = 115 then some spaceS else if c = 83 then some (inv spaceS) else none
def classOf : List UInt8 → Option St
  | a :: c :: _ => if a = 92 then cls c else none
  | _ => none
def starts (c : UInt8) : List UInt8 → Bool
  | b :: _ => b == c
  | [] => false
def signB (c : UInt8) : Bool := c == 42 || c == 43 || c == 63
/-- A byte that stands for itself, with its stroke. -/
def takeByte : List UInt8 → Option (UInt8 × List UInt8)
  | [] => none
  | b :: r => if b = 92 then (match r with
      | [] => none
      | c :: r2 => if wordB c then none else some (c, r2)) else some (b, r)
def isAlone : List UInt8 → Bool
  | b :: r => b == 45 && ((classOf r).isSome || starts 93 r)
  | [] => false
def isRange (s : List UInt8) : Bool := starts 45 s && !isAlone s && !isAlone (s.drop 1)
/-- The items of a bracket expression. -/
def items : Nat → Bool → Bool → List UInt8 → St → Option (St × List UInt8)
  | 0, _, _, _, _ => none
  | n + 1, aft, fst, s, f =>
    if !fst && starts 93 s then some (f, s.drop 1)
    else match classOf s with
      | some c => items n true false (s.drop 2) (join f c)
      | none => match takeByte s with
        | none => none
        | some (lo, r) =>
          if !(isAlone s || (aft && starts 45 s)) && isRange r then (match takeByte (r.drop 1) with
            | none => none
            | some (hi, r2) => if hi < lo then none else items n false false r2 (add f lo.toNat hi.toNat))
          else items n false false r (add f lo.toNat lo.toNat)
def bracket (s : List UInt8) : Option (St × List UInt8) :=
  if starts 94 s then (items (s.length + 1) false true (s.drop 1) none_).map fun x => (inv x.1, x.2)
  else items (s.length + 1) false true s none_
/-- A set of bytes. -/
def set : List UInt8 → Option (St × List UInt8)
  | [] => none
  | b :: r => if b = 46 then some (inv (add none_ 10 10), r)
    else if b = 91 then bracket r
    else match classOf (b :: r) with
      | some c => some (c, r.drop 1)
      | none => if signB b then none else (takeByte (b :: r)).map fun x => (add none_ x.1.toNat x.1.toNat, x.2)

/-! ## instructions -/
def splitI (a b : Int) (lazy : Bool) : In := if lazy then ⟨2, b, a, []⟩ else ⟨2, a, b, []⟩
def saved (k : Nat) (c : List In) : List In := ⟨4, ((2 * k : Nat) : Int), 0, []⟩ :: (c ++ [⟨4, ((2 * k + 1 : Nat) : Int), 0, []⟩])
def repeated (x : List In) (sign : UInt8) (lazy : Bool) : List In :=
  if sign = 42 then splitI 1 ((x.length + 2 : Nat) : Int) lazy :: (x ++ [⟨3, -((x.length + 1 : Nat) : Int), 0, []⟩])
  else if sign = 43 then x ++ [splitI (-(x.length : Int)) 1 lazy]
  else splitI 1 ((x.length + 1 : Nat) : Int) lazy :: x
def choice : List (List In) → List In
  | [] => []
  | [b] => b
  | b :: c :: r => ⟨2, 1, ((b.length + 2 : Nat) : Int), []⟩ :: (b ++ ⟨3, (((choice (c :: r)).length + 1 : Nat) : Int), 0, []⟩ :: choice (c :: r))
/-! ## expressions: an error's number, or instructions, what is left, the groups -/
abbrev Res := Except Int (List In × List UInt8 × Nat)
section
variable (E : List UInt8 → Nat → Nat → Res)
def groupE (s : List UInt8) (g d : Nat) : Res :=
  if d = 64 then .error 12
  else if starts 63 s && starts 58 (s.drop 1) then (match E (s.drop 2) g (d + 1) with
      | .error e => .error e
      | .ok (c, r, g2) => if starts 41 r then .ok (c, r.drop 1, g2) else .error 8)
    else (match E s (g + 1) (d + 1) with
      | .error e => .error e
      | .ok (c, r, g2) => if starts 41 r then .ok (saved (g + 1) c, r.drop 1, g2) else .error 8)
def atomE : List UInt8 → Nat → Nat → Res
  | [], _, _ => .error 8
  | b :: r, g, d => if b = 40 then groupE E r g d
    else if b = 94 then .ok ([⟨5, 0, 0, []⟩], r, g)
    else if b = 36 then .ok ([⟨6, 0, 0, []⟩], r, g)
    else match set (b :: r) with
      | none => .error 8
      | some (f, r2) => .ok ([⟨1, 0, 0, pairs f⟩], r2, g)
/-- The sign that may follow, and whether it is lazy. -/
def rep (x : List In) : List UInt8 → List In × List UInt8
  | [] => (x, [])
  | c :: r => if signB c then (if starts 63 r then (repeated x c true, r.drop 1) else (repeated x c false, r)) else (x, c :: r)
def pieceE (s : List UInt8) (g d : Nat) : Res := match atomE E s g d with
  | .error e => .error e
  | .ok (x, r, g2) => .ok ((rep x r).1, (rep x r).2, g2)
def stops (s : List UInt8) : Bool := s.isEmpty || starts 124 s || starts 41 s
def branchE : Nat → List In → List UInt8 → Nat → Nat → Res
  | 0, _, _, _, _ => .error 8
  | n + 1, acc, s, g, d => if stops s then .ok (acc, s, g) else match pieceE E s g d with
    | .error e => .error e
    | .ok (x, r, g2) => branchE n (acc ++ x) r g2 d
def waysE : Nat → List (List In) → List UInt8 → Nat → Nat → Res
  | 0, _, _, _, _ => .error 8
  | n + 1, bs, s, g, d => match branchE E (s.length + 1) [] s g d with
    | .error e => .error e
    | .ok (b, r, g2) => if starts 124 r then waysE n (bs ++ [b]) (r.drop 1) g2 d else .ok (choice (bs ++ [b]), r, g2)
end
def expr : Nat → List UInt8 → Nat → Nat → Res
  | 0, _, _, _ => .error 8
  | n + 1, s, g, d => waysE (expr n) (s.length + 1) [] s g d
end Rx
end Go.Proofs.Ytedppnejkjcplaa
