/-
  TeP: PLAIN: chapter 15: targets as nodes. No program.
  Shelf5: LAID BY THE SHELF's COMMAND: the library's own contracts of package strings, at this seat's numbers.
  U8: What a byte is, in this translation.
-/
import Derived.Test.YtojmcndiooiehaaGreatDoorJ2
import Derived.Test.YtojmcndiooiehaaGreatDoorJ3
import Derived.Shelf.LaysM
import Derived.Shelf.Small.Strs
import Derived.Shelf.Small.Wraps
import Derived.Shelf.Strconv.Clone
import Derived.Shelf.Strings.Search3
import Derived.Shelf.Strings.SlTrimAscii
import Derived.Shelf.Strings.Trim
import Derived.Test.YtojmcndiooiehaaGreatDoorProg
import Derived.Test.YtojmcndiooiehaaGreatDoorRows
import Derived.WalkKit

set_option linter.unusedSimpArgs false
set_option linter.unusedVariables false
namespace Go.Proofs.YtojmcndiooiehaaGreatDoor
open Go.RowKit

namespace Te
abbrev Tok := Lx.Tok
/-- A node: its kind, its text, its number, what is within. -/
inductive Nd where
  | mk (k : Int) (s : List UInt8) (n : Int) (ks : List Nd)
def Nd.k : Nd → Int
  | .mk k _ _ _ => k
def Nd.s : Nd → List UInt8
  | .mk _ s _ _ => s
def Nd.n : Nd → Int
  | .mk _ _ n _ => n
def Nd.ks : Nd → List Nd
  | .mk _ _ _ ks => ks
abbrev nought : Nd := .mk 0 [] 0 []
abbrev trueT : List UInt8 := [116, 114, 117, 101]
abbrev falseT : List UInt8 := [102, 97, 108, 115, 101]
def pathB (l : List UInt8) : Bool := decide (l.length ≤ 4096) && Lx.pathOf l
/-- A word that calls nothing. -/
def word (s : List UInt8) : Option Nd :=
  if Dc.prOk s = true then some (.mk 3 [] (Dc.prV s) []) else if s = trueT then some (.mk 5 [] 1 []) else if s = falseT then some (.mk 5 [] 0 []) else if pathB s = true then some (.mk 2 s 0 []) else none
def hd (k : Int) : List Tok → Bool
  | [] => false
  | t :: _ => decide (t.1 = k)
abbrev Res := Except Int (Nd × List Tok)
def kids (E : List Tok → Res) (t : List UInt8) : Nat → List Nd → List Tok → Res
  | 0, _, _ => .error 8
  | f + 1, acc, l => match E l with
    | .error e => .error e
    | .ok (n, r) => if hd 4 r = true then .ok (.mk 1 t 0 (acc ++ [n]), r.drop 1) else if hd 5 r = true then kids E t f (acc ++ [n]) (r.drop 1) else .error 8
/-- An expression, where so many calls may still be opened around it. -/
def expr : Nat → List Tok → Res
  | 0, _ => .error 12
  | d + 1, l => match l with
    | [] => .error 8
    | t :: r =>
      if t.1 = 2 then .ok (.mk 4 t.2 0 [], r)
      else if t.1 ≠ 1 then .error 8
      else if (Lx.identOf t.2 && hd 3 r) = true then
        (if hd 4 (r.drop 1) = true then .ok (.mk 1 t.2 0 [], (r.drop 1).drop 1) else kids (expr d) t.2 ((r.drop 1).length + 1) [] (r.drop 1))
      else match word t.2 with
        | some n => .ok (n, r)
        | none => .error 8
/-- What eats. -/
def Eats (E : List Tok → Res) : Prop := ∀ l n r, E l = .ok (n, r) → r.length < l.length
theorem hd_len {k : Int} {l : List Tok} (h : hd k l = true) : (l.drop 1).length + 1 = l.length := by
  cases l with
  | nil => cases h
  | cons t r => simp
theorem kids_eats {E : List Tok → Res} (h : Eats E) (t : List UInt8) : ∀ f acc, Eats (kids E t f acc)
  | 0, acc => fun l n r e => by cases e
  | f + 1, acc => fun l n r e => by
    rw [kids] at e
    cases he : E l with
    | error x => rw [he] at e; cases e
    | ok p =>
      obtain ⟨m, q⟩ := p
      have h1 := h l m q he
      rw [he] at e
      dsimp only at e
      split at e
      · rename_i h4
        injection e with e; injection e with e1 e2
        have := hd_len h4
        rw [← e2]; omega
      · split at e
        · rename_i h5
          have := hd_len h5
          have := kids_eats h t f (acc ++ [m]) (q.drop 1) n r e
          omega
        · cases e
theorem kids_more {E : List Tok → Res} (h : Eats E) (t : List UInt8) : ∀ f g acc l, l.length < f → l.length < g → kids E t f acc l = kids E t g acc l
  | 0, _, _, _, hf, _ => by omega
  | _, 0, _, _, _, hg => by omega
  | f + 1, g + 1, acc, l, hf, hg => by
    rw [kids, kids]
    cases he : E l with
    | error x => rfl
    | ok p =>
      obtain ⟨m, q⟩ := p
      have h1 := h l m q he
      show (if hd 4 q = true then _ else _) = (if hd 4 q = true then _ else _)
      split
      · rfl
      · split
        · rename_i h5
          have := hd_len h5
          exact kids_more h t f g _ _ (by omega) (by omega)
        · rfl
theorem expr_eats : ∀ d, Eats (expr d)
  | 0 => fun l n r e => by cases e
  | d + 1 => fun l n r e => by
    cases l with
    | nil => rw [expr] at e; cases e
    | cons t q =>
      rw [expr] at e
      split at e
      · injection e with e; injection e with e1 e2; rw [← e2]; simp
      · split at e
        · cases e
        · split at e
          · split at e
            · injection e with e; injection e with e1 e2; rw [← e2]; simp; omega
            · have := kids_eats (expr_eats d) t.2 _ _ _ n r e
              simp at this ⊢; omega
          · split at e
            · injection e with e; injection e with e1 e2; rw [← e2]; simp
            · cases e
/-- The list of what is within a call, from here on. -/
def kidsA (d : Nat) (t : List UInt8) (acc : List Nd) (l : List Tok) : Res := kids (expr d) t (l.length + 1) acc l
theorem kidsA_bad {d : Nat} {t : List UInt8} {acc : List Nd} {l : List Tok} {e : Int} (h : expr d l = .error e) : kidsA d t acc l = .error e := by
  unfold kidsA; rw [kids, h]
theorem kidsA_end {d : Nat} {t : List UInt8} {acc : List Nd} {l r : List Tok} {n : Nd} (h : expr d l = .ok (n, r)) (h4 : hd 4 r = true) : kidsA d t acc l = .ok (.mk 1 t 0 (acc ++ [n]), r.drop 1) := by
  unfold kidsA; rw [kids, h]; dsimp only; rw [if_pos h4]
theorem kidsA_more {d : Nat} {t : List UInt8} {acc : List Nd} {l r : List Tok} {n : Nd} (h : expr d l = .ok (n, r)) (h4 : hd 4 r = false) (h5 : hd 5 r = true) : kidsA d t acc l = kidsA d t (acc ++ [n]) (r.drop 1) := by
  have h1 := expr_eats d l n r h
  have h2 := hd_len h5
  unfold kidsA; rw [kids, h]; dsimp only; rw [if_neg (by simp [h4]), if_pos h5]
  exact kids_more (expr_eats d) t _ _ _ _ (by omega) (by omega)
theorem kidsA_no {d : Nat} {t : List UInt8} {acc : List Nd} {l r : List Tok} {n : Nd} (h : expr d l = .ok (n, r)) (h4 : hd 4 r = false) (h5 : hd 5 r = false) : kidsA d t acc l = .error 8 := by
  unfold kidsA; rw [kids, h]; dsimp only; rw [if_neg (by simp [h4]), if_neg (by simp [h5])]
theorem expr_deep (l : List Tok) : expr 0 l = .error 12 := by rw [expr]
theorem expr_none (d : Nat) : expr (d + 1) [] = .error 8 := by rw [expr]
theorem expr_str (d : Nat) (t : List UInt8) (r : List Tok) : expr (d + 1) ((2, t) :: r) = .ok (.mk 4 t 0 [], r) := by rw [expr]; rfl
theorem expr_bad (d : Nat) {k : Int} (t : List UInt8) (r : List Tok) (h2 : k ≠ 2) (h1 : k ≠ 1) : expr (d + 1) ((k, t) :: r) = .error 8 := by
  rw [expr]; dsimp only; rw [if_neg h2, if_pos h1]
theorem expr_empty (d : Nat) {t : List UInt8} {r : List Tok} (hi : Lx.identOf t = true) (h3 : hd 3 r = true) (h4 : hd 4 (r.drop 1) = true) : expr (d + 1) ((1, t) :: r) = .ok (.mk 1 t 0 [], (r.drop 1).drop 1) := by
  rw [expr]; dsimp only; rw [if_neg (by decide), if_neg (by decide), if_pos (by simp [hi, h3]), if_pos h4]
theorem expr_call (d : Nat) {t : List UInt8} {r : List Tok} (hi : Lx.identOf t = true) (h3 : hd 3 r = true) (h4 : hd 4 (r.drop 1) = false) : expr (d + 1) ((1, t) :: r) = kidsA d t [] (r.drop 1) := by
  rw [expr]; dsimp only; rw [if_neg (by decide), if_neg (by decide), if_pos (by simp [hi, h3]), if_neg (by rw [h4]; decide)]; rfl
theorem expr_word (d : Nat) {t : List UInt8} {r : List Tok} (h : (Lx.identOf t && hd 3 r) = false) : expr (d + 1) ((1, t) :: r) = match word t with
    | some n => .ok (n, r)
    | none => .error 8 := by
  rw [expr]; dsimp only; rw [if_neg (by decide), if_neg (by decide), if_neg (by simp [h])]
/-- All tokens as a node. -/
def parse (l : List Tok) : Except Int Nd := match expr 64 l with
  | .error e => .error e
  | .ok (n, r) => if r = [] then .ok n else .error 8
/-- A text as a node. -/
def parseS (s : List UInt8) : Except Int Nd := if 4096 < s.length then .error 13 else match Lx.lex s with
  | none => .error 8
  | some l => parse l
def ndOf (x : Except Int Nd) : Nd := match x with
  | .error _ => nought
  | .ok n => n
def erOf (x : Except Int Nd) : Int := match x with
  | .error e => e
  | .ok _ => 0

/-! ## as a text -/
def quoted (s : List UInt8) : List UInt8 := if s.contains 34 = true then [39] ++ s ++ [39] else [34] ++ s ++ [34]
mutual
def txt : Nd → List UInt8
  | .mk k s n ks => if k = 1 then s ++ [40] ++ (txts true ks ++ [41]) else if k = 2 then s else if k = 3 then Dc.pr true n else if k = 4 then quoted s else if k = 5 then (if n = 1 then trueT else falseT) else s
def txts : Bool → List Nd → List UInt8
  | _, [] => []
  | b, x :: r => (if b = true then [] else [44]) ++ (txt x ++ txts false r)
end

/-! ## what may be -/
def leafOk (k : Int) (s : List UInt8) (n : Int) : Bool :=
  if k = 2 then decide (n = 0) && (pathB s && !(decide (s = trueT)) && !(decide (s = falseT)) && !Dc.prOk s)
  else if k = 3 then decide (s = []) && (decide (-4611686018427387904 ≤ n) && decide (n ≤ 4611686018427387904))
  else if k = 4 then decide (n = 0) && !(s.contains 34 && s.contains 39)
  else if k = 5 then decide (s = []) && (decide (n = 0) || decide (n = 1))
  else false
mutual
def ok : Nat → Nd → Bool
  | d, .mk k s n ks => decide (0 < d) && (if k = 1 then decide (n = 0) && (Lx.identOf s && oks (d - 1) ks) else ks.isEmpty && leafOk k s n)
def oks : Nat → List Nd → Bool
  | _, [] => true
  | d, x :: r => ok d x && oks d r
end

/-! ## how deep -/
mutual
def dep : Nd → Nat
  | .mk k _ _ ks => if k = 1 then deps ks + 1 else 1
def deps : List Nd → Nat
  | [] => 0
  | x :: r => max (dep x) (deps r)
end

/-! ## are two one -/
mutual
def same : Nd → Nd → Bool
  | .mk k s n ks, .mk k' s' n' ks' => decide (k = k') && (decide (s = s') && (decide (n = n') && sames ks ks'))
def sames : List Nd → List Nd → Bool
  | [], [] => true
  | x :: r, y :: q => same x y && sames r q
  | _, _ => false
end
mutual
theorem same_refl : ∀ a, same a a = true
  | .mk k s n ks => by rw [same, decide_eq_true rfl, decide_eq_true rfl, decide_eq_true rfl, sames_refl ks]; rfl
theorem sames_refl : ∀ l, sames l l = true
  | [] => by rw [sames]
  | x :: r => by rw [sames, same_refl x, sames_refl r]; rfl
end
theorem sames_len : ∀ (l m : List Nd), l.length ≠ m.length → sames l m = false
  | [], [], h => absurd rfl h
  | [], y :: q, _ => by simp [sames]
  | x :: r, [], _ => by simp [sames]
  | x :: r, y :: q, h => by rw [sames, sames_len r q (by simpa using h), Bool.and_false]

/-! ## how heavy -/
mutual
def wt : Nd → Nat
  | .mk _ s _ ks => 5 + s.length + wts ks
def wts : List Nd → Nat
  | [] => 0
  | x :: r => wt x + wts r
end
end Te
end Go.Proofs.YtojmcndiooiehaaGreatDoor

namespace Go.Proofs
open Go.Shelf Go.RowKit
def Tryz.lays161_ren : Go.Shelf.Ren := ⟨fun | 161 => 50 | 231 => 74 | 227 => 75 | 233 => 76 | 235 => 77 | 228 => 90 | 197 => 91 | 151 => 92 | 260 => 105 | 152 => 106 | 137 => 96 | 119 => 117 | 224 => 110 | 225 => 109 | 217 => 108 | 266 => 118 | n => n, fun | 9 => 9 | 4 => 4 | 3 => 3 | 5 => 5 | 117 => 107 | 116 => 106 | 0 => 0 | 124 => 110 | 105 => 121 | 21 => 21 | 119 => 132 | 46 => 130 | 139 => 135 | 138 => 134 | n => n, fun | 3 => 1 | 4 => 2 | n => n⟩
theorem Tryz.lays161 : Go.Proofs.Lays.n161 Tryz.prog Tryz.lays161_ren := {
  mixed := by kernel_rfl
  f119 := Tryz.func117.trans (congrArg some (by kernel_rfl))
  f137 := Tryz.func96.trans (congrArg some (by kernel_rfl))
  f151 := Tryz.func92.trans (congrArg some (by kernel_rfl))
  f152 := Tryz.func106.trans (congrArg some (by kernel_rfl))
  f161 := Tryz.func50.trans (congrArg some (by kernel_rfl))
  f197 := Tryz.func91.trans (congrArg some (by kernel_rfl))
  f217 := Tryz.func108.trans (congrArg some (by kernel_rfl))
  f224 := Tryz.func110.trans (congrArg some (by kernel_rfl))
  f225 := Tryz.func109.trans (congrArg some (by kernel_rfl))
  f227 := Tryz.func75.trans (congrArg some (by kernel_rfl))
  f228 := Tryz.func90.trans (congrArg some (by kernel_rfl))
  f231 := Tryz.func74.trans (congrArg some (by kernel_rfl))
  f233 := Tryz.func76.trans (congrArg some (by kernel_rfl))
  f235 := Tryz.func77.trans (congrArg some (by kernel_rfl))
  f260 := Tryz.func105.trans (congrArg some (by kernel_rfl))
  f266 := Tryz.func118.trans (congrArg some (by kernel_rfl))
  t0 := Tryz.underlying0
  a0 := Tryz.isAgg0
  z0 := Tryz.sizeOf0
  v0 := Tryz.zeroValue0
  t3 := Tryz.underlying3
  a3 := Tryz.isAgg3
  z3 := Tryz.sizeOf3
  v3 := Tryz.zeroValue3
  t4 := Tryz.underlying4
  a4 := Tryz.isAgg4
  z4 := Tryz.sizeOf4
  v4 := Tryz.zeroValue4
  t5 := Tryz.underlying5
  a5 := Tryz.isAgg5
  z5 := Tryz.sizeOf5
  v5 := Tryz.zeroValue5
  t9 := Tryz.underlying9
  a9 := Tryz.isAgg9
  z9 := Tryz.sizeOf9
  v9 := Tryz.zeroValue9
  t21 := Tryz.underlying21
  a21 := Tryz.isAgg21
  z21 := Tryz.sizeOf21
  v21 := Tryz.zeroValue21
  t46 := Tryz.underlying130
  a46 := Tryz.isAgg130
  z46 := Tryz.sizeOf130
  v46 := Tryz.zeroValue130
  t105 := Tryz.underlying121
  a105 := Tryz.isAgg121
  z105 := Tryz.sizeOf121
  v105 := Tryz.zeroValue121
  t116 := Tryz.underlying106
  a116 := Tryz.isAgg106
  z116 := Tryz.sizeOf106
  t117 := Tryz.underlying107
  a117 := Tryz.isAgg107
  z117 := Tryz.sizeOf107
  v117 := Tryz.zeroValue107
  t119 := Tryz.underlying132
  a119 := Tryz.isAgg132
  z119 := Tryz.sizeOf132
  t124 := Tryz.underlying110
  a124 := Tryz.isAgg110
  z124 := Tryz.sizeOf110
  v124 := Tryz.zeroValue110
  t138 := Tryz.underlying134
  a138 := Tryz.isAgg134
  z138 := Tryz.sizeOf134
  v138 := Tryz.zeroValue134
  t139 := Tryz.underlying135
  a139 := Tryz.isAgg135
  z139 := Tryz.sizeOf135
  v139 := Tryz.zeroValue135
  g3 := by kernel_rfl
  g4 := by kernel_rfl }
theorem Tryz.strings_TrimLeft_one (s : ByteArray) (c : UInt8) (hc : c.toNat < 128) (w : World) :
    Calls Tryz.prog 50 #[.string s, .string ⟨#[c]⟩] w fun e w' => e = .returned (.string ⟨(Lib.trimLeftB s.data.toList c).toArray⟩) ∧ w' = w := Any.strings_TrimLeft_one Tryz.lays161 s c hc w
def Tryz.lays137_ren : Go.Shelf.Ren := ⟨fun | 137 => 96 | 217 => 108 | 266 => 118 | n => n, fun | 9 => 9 | 5 => 5 | 3 => 3 | n => n, fun | n => n⟩
theorem Tryz.lays137 : Go.Proofs.Lays.n137 Tryz.prog Tryz.lays137_ren := {
  mixed := by kernel_rfl
  f137 := Tryz.func96.trans (congrArg some (by kernel_rfl))
  f217 := Tryz.func108.trans (congrArg some (by kernel_rfl))
  f266 := Tryz.func118.trans (congrArg some (by kernel_rfl))
  t3 := Tryz.underlying3
  a3 := Tryz.isAgg3
  z3 := Tryz.sizeOf3
  v3 := Tryz.zeroValue3
  t5 := Tryz.underlying5
  a5 := Tryz.isAgg5
  z5 := Tryz.sizeOf5
  v5 := Tryz.zeroValue5
  t9 := Tryz.underlying9
  a9 := Tryz.isAgg9
  z9 := Tryz.sizeOf9
  v9 := Tryz.zeroValue9 }
theorem Tryz.strings_IndexByte (s : ByteArray) (c : Int) (w : World) :
    Calls Tryz.prog 96 #[.string s, .int .u8 c] w fun e w' => e = .returned (.int .i64 (Lib.indexByte s.data.toList c.toNat.toUInt8)) ∧ w' = w := Any.strings_IndexByte Tryz.lays137 s c w
def Tryz.lays103_ren : Go.Shelf.Ren := ⟨fun | 103 => 78 | 210 => 93 | 206 => 107 | n => n, fun | 9 => 9 | 4 => 4 | 24 => 111 | 3 => 3 | n => n, fun | n => n⟩
theorem Tryz.lays103 : Go.Proofs.Lays.n103 Tryz.prog Tryz.lays103_ren := {
  mixed := by kernel_rfl
  f103 := Tryz.func78.trans (congrArg some (by kernel_rfl))
  f206 := Tryz.func107.trans (congrArg some (by kernel_rfl))
  f210 := Tryz.func93.trans (congrArg some (by kernel_rfl))
  t3 := Tryz.underlying3
  a3 := Tryz.isAgg3
  z3 := Tryz.sizeOf3
  v3 := Tryz.zeroValue3
  t4 := Tryz.underlying4
  a4 := Tryz.isAgg4
  z4 := Tryz.sizeOf4
  v4 := Tryz.zeroValue4
  t9 := Tryz.underlying9
  a9 := Tryz.isAgg9
  z9 := Tryz.sizeOf9
  v9 := Tryz.zeroValue9
  t24 := Tryz.underlying111
  a24 := Tryz.isAgg111
  z24 := Tryz.sizeOf111
  v24 := Tryz.zeroValue111 }
theorem Tryz.strings_CutPrefix (s p : ByteArray) (w : World) :
    Calls Tryz.prog 78 #[.string s, .string p] w fun e w' => e = .returned (.tuple #[.string ⟨(Lib.trimPrefix s.data.toList p.data.toList).toArray⟩, .bool (Lib.hasPrefix s.data.toList p.data.toList)]) ∧ w' = w := Any.strings_CutPrefix Tryz.lays103 s p w
def Tryz.laysM316_ren : Go.Shelf.Ren := ⟨fun | 316 => 112 | n => n, fun | 9 => 9 | 3 => 3 | 4 => 4 | 37 => 52 | 0 => 0 | 127 => 86 | 5 => 5 | n => n, fun | n => n⟩
theorem Tryz.laysM316 : Go.Proofs.LaysM.n316 Tryz.prog Tryz.laysM316_ren := {
  mixed := by kernel_rfl
  f316 := Tryz.func112.trans (congrArg some (by kernel_rfl))
  t0 := Tryz.underlying0
  a0 := Tryz.isAgg0
  z0 := Tryz.sizeOf0
  v0 := Tryz.zeroValue0
  t3 := Tryz.underlying3
  a3 := Tryz.isAgg3
  z3 := Tryz.sizeOf3
  v3 := Tryz.zeroValue3
  t4 := Tryz.underlying4
  a4 := Tryz.isAgg4
  z4 := Tryz.sizeOf4
  v4 := Tryz.zeroValue4
  t9 := Tryz.underlying9
  a9 := Tryz.isAgg9
  z9 := Tryz.sizeOf9
  v9 := Tryz.zeroValue9
  t37 := Tryz.underlying52
  a37 := Tryz.isAgg52
  z37 := Tryz.sizeOf52
  v37 := Tryz.zeroValue52
  t127 := Tryz.underlying86
  a127 := Tryz.isAgg86
  z127 := Tryz.sizeOf86
  v127 := Tryz.zeroValue86
  t5 := Tryz.underlying5
  a5 := Tryz.isAgg5
  z5 := Tryz.sizeOf5
  v5 := Tryz.zeroValue5
  i0 := by kernel_rfl
  i3 := by kernel_rfl
  i4 := by kernel_rfl
  i5 := by kernel_rfl
  i9 := by kernel_rfl
  i37 := by kernel_rfl
  i127 := by kernel_rfl }
theorem Tryz.stringslite_Clone (s : ByteArray) (w : World) (hlim : s.size ≤ 281474976710656) :
    Calls Tryz.prog 112 #[.string s] w fun e w' => e = .returned (.string s) ∧ Below w.heap.size w w' := Any.stringslite_Clone Tryz.laysM316 s w hlim
def Tryz.lays143_ren : Go.Shelf.Ren := ⟨fun | 143 => 79 | 219 => 94 | 217 => 108 | 225 => 109 | 224 => 110 | 267 => 111 | 266 => 118 | 314 => 119 | n => n, fun | 9 => 9 | 3 => 3 | 4 => 4 | 5 => 5 | 46 => 130 | 146 => 138 | 51 => 137 | n => n, fun | 1 => 0 | n => n⟩
theorem Tryz.lays143 : Go.Proofs.Lays.n143 Tryz.prog Tryz.lays143_ren := {
  mixed := by kernel_rfl
  f143 := Tryz.func79.trans (congrArg some (by kernel_rfl))
  f217 := Tryz.func108.trans (congrArg some (by kernel_rfl))
  f219 := Tryz.func94.trans (congrArg some (by kernel_rfl))
  f224 := Tryz.func110.trans (congrArg some (by kernel_rfl))
  f225 := Tryz.func109.trans (congrArg some (by kernel_rfl))
  f266 := Tryz.func118.trans (congrArg some (by kernel_rfl))
  f267 := Tryz.func111.trans (congrArg some (by kernel_rfl))
  f314 := Tryz.func119.trans (congrArg some (by kernel_rfl))
  t3 := Tryz.underlying3
  a3 := Tryz.isAgg3
  z3 := Tryz.sizeOf3
  v3 := Tryz.zeroValue3
  t4 := Tryz.underlying4
  a4 := Tryz.isAgg4
  z4 := Tryz.sizeOf4
  v4 := Tryz.zeroValue4
  t5 := Tryz.underlying5
  a5 := Tryz.isAgg5
  z5 := Tryz.sizeOf5
  v5 := Tryz.zeroValue5
  t9 := Tryz.underlying9
  a9 := Tryz.isAgg9
  z9 := Tryz.sizeOf9
  v9 := Tryz.zeroValue9
  t46 := Tryz.underlying130
  a46 := Tryz.isAgg130
  z46 := Tryz.sizeOf130
  v46 := Tryz.zeroValue130
  t51 := Tryz.underlying137
  a51 := Tryz.isAgg137
  z51 := Tryz.sizeOf137
  v51 := Tryz.zeroValue137
  t146 := Tryz.underlying138
  a146 := Tryz.isAgg138
  z146 := Tryz.sizeOf138
  v146 := Tryz.zeroValue138
  g1 := by kernel_rfl }
theorem Tryz.strings_Index_one (s : ByteArray) (c : UInt8) (w : World) :
    Calls Tryz.prog 79 #[.string s, .string ⟨#[c]⟩] w fun e w' => e = .returned (.int .i64 (Lib.indexByte s.data.toList c)) ∧ w' = w := Any.strings_Index_one Tryz.lays143 s c w
def Tryz.lays144_ren : Go.Shelf.Ren := ⟨fun | 144 => 63 | 143 => 79 | 219 => 94 | 217 => 108 | 225 => 109 | 224 => 110 | 267 => 111 | 266 => 118 | 314 => 119 | n => n, fun | 9 => 9 | 4 => 4 | 3 => 3 | 5 => 5 | 46 => 130 | 146 => 138 | 51 => 137 | n => n, fun | 1 => 0 | n => n⟩
theorem Tryz.lays144 : Go.Proofs.Lays.n144 Tryz.prog Tryz.lays144_ren := {
  mixed := by kernel_rfl
  f143 := Tryz.func79.trans (congrArg some (by kernel_rfl))
  f144 := Tryz.func63.trans (congrArg some (by kernel_rfl))
  f217 := Tryz.func108.trans (congrArg some (by kernel_rfl))
  f219 := Tryz.func94.trans (congrArg some (by kernel_rfl))
  f224 := Tryz.func110.trans (congrArg some (by kernel_rfl))
  f225 := Tryz.func109.trans (congrArg some (by kernel_rfl))
  f266 := Tryz.func118.trans (congrArg some (by kernel_rfl))
  f267 := Tryz.func111.trans (congrArg some (by kernel_rfl))
  f314 := Tryz.func119.trans (congrArg some (by kernel_rfl))
  t3 := Tryz.underlying3
  a3 := Tryz.isAgg3
  z3 := Tryz.sizeOf3
  v3 := Tryz.zeroValue3
  t4 := Tryz.underlying4
  a4 := Tryz.isAgg4
  z4 := Tryz.sizeOf4
  v4 := Tryz.zeroValue4
  t5 := Tryz.underlying5
  a5 := Tryz.isAgg5
  z5 := Tryz.sizeOf5
  v5 := Tryz.zeroValue5
  t9 := Tryz.underlying9
  a9 := Tryz.isAgg9
  z9 := Tryz.sizeOf9
  v9 := Tryz.zeroValue9
  t46 := Tryz.underlying130
  a46 := Tryz.isAgg130
  z46 := Tryz.sizeOf130
  v46 := Tryz.zeroValue130
  t51 := Tryz.underlying137
  a51 := Tryz.isAgg137
  z51 := Tryz.sizeOf137
  v51 := Tryz.zeroValue137
  t146 := Tryz.underlying138
  a146 := Tryz.isAgg138
  z146 := Tryz.sizeOf138
  v146 := Tryz.zeroValue138
  g1 := by kernel_rfl }
theorem Tryz.strings_Contains_one (s : ByteArray) (c : UInt8) (w : World) :
    Calls Tryz.prog 63 #[.string s, .string ⟨#[c]⟩] w fun e w' => e = .returned (.bool (decide (0 ≤ Lib.indexByte s.data.toList c))) ∧ w' = w := Any.strings_Contains_one Tryz.lays144 s c w

theorem Tryz.strings_TrimLeft_laid (s cutset : ByteArray) (w : World) (hcs : cutset.size < 4294967281) (hascii : ∀ (j : Nat) b, cutset.data.toList[j]? = some b → b.toNat < 128) :
    Calls Tryz.prog 50 #[.string s, .string cutset] w fun e w' => e = .returned (.string ⟨(Lib.trimLeftS s.data.toList cutset.data.toList).toArray⟩) ∧ Below w.heap.size w w' :=
  Any.strings_TrimLeft_laid (ρ := Tryz.lays161_ren) Tryz.lays161 (by kernel_rfl) s cutset w hcs hascii
end Go.Proofs

namespace Go.Proofs.YtojmcndiooiehaaGreatDoor
open Go.RowKit
theorem u8info : (Tryz.prog.info? 5).map (fun i => (i.zero, i.size, i.bytes)) = some (some (.int .u8 0), 1, 1) := by kernel_rfl
end Go.Proofs.YtojmcndiooiehaaGreatDoor
