/-
  AgPure: THE PLAIN MATHEMATICS of agg: many values as one, in five ways; whether enough are known; what lies between; turned around.
  WpPure: THE PLAIN STATE of chapter 7: what is in a file of files that are known, and what is written there; as the document says it. No program is named here.
  VrMake: CONTRACTS: the document's own files as an object: Create.
  WpRO: THE DOCUMENT's FILES AS AN OBJECT, among blocks that are to stay: what each of its functions does to it.
  WhSide: CONTRACTS: the document's archives: which may follow which.
  WhMay: CONTRACTS: the document's own headers: which may be.
  WhRef: CONTRACTS: the document's own headers: which may be, any; their sizes, places, spans.
  AgRow: ROWS OF VALUES: what a slice of Vals holds, as a list; a row of the call's own; a row of Vals that comes in.
  WpAt: CONTRACTS: chapter 7, the document's file: where a slot stands.
  WpVal: CONTRACTS: chapter 7, the document's file: the value that a slot has of a time.
  WpWr: CONTRACTS: chapter 7, the document's file: a slot is written.
  AgKn: CONTRACTS: those of a row that are known, on both sides.
  FxLen: CONTRACT: how many bits a word of 64 bits needs.
  FxBits: CONTRACTS on words of 64 bits: a number without its sign, products of two words, the leading noughts.
  AgEn: CONTRACTS: whether enough are known, on both sides.
  AgCmp: CONTRACTS: how agg compares two values; the greatest and the least of a row (slices.MaxFunc, slices.MinFunc).
  FxDivPure: THE PLAIN MATHEMATICS of a division of two words by one, digit by digit (a digit: 32 bits), as the library does it.
-/
import Derived.Test.YtbhfapbhlkgmfaaDoorJ3
import Derived.Test.YtbhfapbhlkgmfaaDoorJ1
import Derived.Test.YtbhfapbhlkgmfaaDoorJ2
import Derived.Test.YtbhfapbhlkgmfaaDoorRows
import Derived.WalkKit
import Derived.WalkSpells
import Derived.WalkLawsBesides
import Derived.Deep.QuietTactic
import Derived.BigQuiet
import Derived.Lib.QuietBelow
import Derived.Lib.Hide
import Derived.IntWalk
import Derived.Deep.RegionHeld3
import Derived.Laws.MakeOwn
import Derived.Lib.BitFns
import Derived.Lib.Strings
import Derived.Lib.Slices
import Derived.Lib.Small
import Derived.Lib.Walk
import Derived.Lib.Mul64
import Derived.Laws.Bits64b

namespace Go.Proofs.YtbhfapbhlkgmfaaDoor
open Go.RowKit
open Fx (Vl)
namespace Ag

/-- Those that are known. -/
def kn (l : List Vl) : List Vl := l.filter Fx.num
theorem kn_take (l : List Vl) (k : Nat) (h : k < l.length) : kn (l.take (k + 1)) = if Fx.num l[k] = true then kn (l.take k) ++ [l[k]] else kn (l.take k) := by
  unfold kn
  rw [List.take_succ_eq_append_getElem h, List.filter_append]
  by_cases hn : Fx.num l[k] = true
  · rw [if_pos hn]; simp [hn]
  · rw [if_neg hn]; simp [hn]
theorem kn_len (l : List Vl) : (kn l).length ≤ l.length := List.length_filter_le _ _
theorem kn_take_len (l : List Vl) (k : Nat) : (kn (l.take k)).length ≤ k := Nat.le_trans (kn_len _) (by rw [List.length_take]; omega)
theorem kn_num (l : List Vl) : ∀ v ∈ kn l, Fx.num v = true := fun _ hv => (List.mem_filter.1 hv).2
theorem kn_mem (l : List Vl) : ∀ v ∈ kn l, v ∈ l := fun _ hv => (List.mem_filter.1 hv).1

def mx1 (a b : Vl) : Vl := if a.n < b.n then b else a
def mn1 (a b : Vl) : Vl := if b.n < a.n then b else a
def mx (l : List Vl) : Vl := match l with | [] => Fx.none | x :: r => r.foldl mx1 x
def mn (l : List Vl) : Vl := match l with | [] => Fx.none | x :: r => r.foldl mn1 x
theorem mx_take (l : List Vl) (k : Nat) (h0 : 0 < k) (h : k < l.length) : mx (l.take (k + 1)) = mx1 (mx (l.take k)) l[k] := by
  rw [List.take_succ_eq_append_getElem h]
  cases hl : l.take k with
  | nil => have := congrArg List.length hl; rw [List.length_take, Nat.min_eq_left (Nat.le_of_lt h)] at this; simp at this; omega
  | cons x r => simp [mx, List.foldl_append]
theorem mn_take (l : List Vl) (k : Nat) (h0 : 0 < k) (h : k < l.length) : mn (l.take (k + 1)) = mn1 (mn (l.take k)) l[k] := by
  rw [List.take_succ_eq_append_getElem h]
  cases hl : l.take k with
  | nil => have := congrArg List.length hl; rw [List.length_take, Nat.min_eq_left (Nat.le_of_lt h)] at this; simp at this; omega
  | cons x r => simp [mn, List.foldl_append]
theorem mx_one (l : List Vl) (h : 0 < l.length) : mx (l.take 1) = l[0] := by cases l with | nil => cases h | cons x r => rfl
theorem mn_one (l : List Vl) (h : 0 < l.length) : mn (l.take 1) = l[0] := by cases l with | nil => cases h | cons x r => rfl
theorem mx1_yes {a b : Vl} (h : a.n < b.n) : mx1 a b = b := if_pos h
theorem mx1_no {a b : Vl} (h : ¬ a.n < b.n) : mx1 a b = a := if_neg h
theorem mn1_yes {a b : Vl} (h : b.n < a.n) : mn1 a b = b := if_pos h
theorem mn1_no {a b : Vl} (h : ¬ b.n < a.n) : mn1 a b = a := if_neg h

/-- All of them as one. -/
def tg (kind : Int) (k : List Vl) : Vl :=
  if k.length = 0 then Fx.none
  else if kind = 1 then Fx.div (sum k) (Fx.of ((k.length : Int) * 1000000))
  else if kind = 2 then sum k
  else if kind = 3 then k.getD (k.length - 1) Fx.none
  else if kind = 4 then mx k
  else if kind = 5 then mn k
  else Fx.none
theorem tg_nil (kind : Int) : tg kind [] = Fx.none := rfl
theorem tg_1 {k : List Vl} (h : 0 < k.length) : tg 1 k = Fx.div (sum k) (Fx.of ((k.length : Int) * 1000000)) := by unfold tg; rw [if_neg (Nat.ne_of_gt h), if_pos (Eq.refl (1 : Int))]
theorem tg_2 {k : List Vl} (h : 0 < k.length) : tg 2 k = sum k := by unfold tg; rw [if_neg (Nat.ne_of_gt h), if_neg (by decide), if_pos (Eq.refl (2 : Int))]
theorem tg_3 {k : List Vl} (h : 0 < k.length) : tg 3 k = k[k.length - 1]'(by omega) := by
  unfold tg; rw [if_neg (Nat.ne_of_gt h), if_neg (by decide), if_neg (by decide), if_pos (Eq.refl (3 : Int))]
  rw [List.getD_eq_getElem?_getD, List.getElem?_eq_getElem (by omega)]; rfl
theorem tg_4 {k : List Vl} (h : 0 < k.length) : tg 4 k = mx k := by unfold tg; rw [if_neg (Nat.ne_of_gt h), if_neg (by decide), if_neg (by decide), if_neg (by decide), if_pos (Eq.refl (4 : Int))]
theorem tg_5 {k : List Vl} (h : 0 < k.length) : tg 5 k = mn k := by unfold tg; rw [if_neg (Nat.ne_of_gt h), if_neg (by decide), if_neg (by decide), if_neg (by decide), if_neg (by decide), if_pos (Eq.refl (5 : Int))]
theorem tg_no {kind : Int} {k : List Vl} (h1 : kind ≠ 1) (h2 : kind ≠ 2) (h3 : kind ≠ 3) (h4 : kind ≠ 4) (h5 : kind ≠ 5) : tg kind k = Fx.none := by
  unfold tg; rw [if_neg h1, if_neg h2, if_neg h3, if_neg h4, if_neg h5]; split <;> rfl

def lim (n : Int) : Int := if n < 0 then 0 else if 16777216 < n then 16777216 else n
theorem lim_bd (n : Int) : 0 ≤ lim n ∧ lim n ≤ 16777216 := by
  unfold lim
  split
  · omega
  · split <;> omega
def en (xff known all : Int) : Bool := decide (0 < lim known ∧ lim known ≤ lim all ∧ lim xff * lim all ≤ lim known * 1000000)
def put (kind xff : Int) (l : List Vl) : Vl := if en xff ((kn l).length : Int) (l.length : Int) = true then tg kind (kn l) else Fx.none
end Ag
end Go.Proofs.YtbhfapbhlkgmfaaDoor

namespace Go.Proofs.YtbhfapbhlkgmfaaDoor
open Go.RowKit
open Fx (Vl)
open Vf (Fl Sv)
namespace Wp

/-- A header. -/
structure Hd where
  ag : Int
  xf : Int
  l : List (Int × Int)
def Hd.zero : Hd := ⟨0, 0, []⟩
def Hd.val (h : Hd) : Bool := Wh.val h.ag h.xf h.l
def Hd.size (h : Hd) : Int := Wh.size h.ag h.xf h.l
def Hd.offs (h : Hd) (i : Int) : Int := Wh.offs h.ag h.xf h.l i
def Hd.span (h : Hd) : Int := Wh.spn h.ag h.xf h.l
def Hd.step (h : Hd) (i : Nat) : Int := (Wh.At h.l i).1
def Hd.cnt (h : Hd) (i : Nat) : Int := (Wh.At h.l i).2
/-- The header that bytes begin with. -/
def hdOf (b : List UInt8) : Hd := ⟨Wh.dag b, Wh.dxf b, Wh.dl b⟩

/-- Info: the header of a file, and the error. -/
def info (fs : List Fl) (n : List UInt8) : Hd × Int :=
  if (Vf.size fs n).2 ≠ 0 then (Hd.zero, (Vf.size fs n).2)
  else
    let b := (Vf.read fs n 0 (Vf.size fs n).1).1
    if Wh.derr b ≠ 0 ∨ (hdOf b).size ≠ (Vf.size fs n).1 then (Hd.zero, 2) else (hdOf b, 0)

/-- Create: of files in the state S. -/
def create (S : Sv) (n : List UInt8) (h : Hd) : Sv × Int :=
  if h.val = false then (S, 1)
  else
    let b := Wh.enc h.ag h.xf h.l
    let R := Vf.create S n (b ++ List.replicate (h.size - (b.length : Int)).toNat 0)
    if R.2 = 0 then ({ R.1 with was := R.1.now, l := [] }, 0) else (R.1, R.2)

/-- Where a slot stands. -/
def at_ (h : Hd) (i : Nat) (t : Int) : Int := h.offs i + 12 * Sl.pl (h.step i) (h.cnt i) t
/-- The point in twelve bytes. -/
def pt (b : List UInt8) : Int × Int := (Sl.dat b, Sl.dnn b)
/-- What a slot has of a time. -/
def value (fs : List Fl) (n : List UInt8) (h : Hd) (i : Nat) (t : Int) : Vl :=
  let p := pt (Vf.read fs n (at_ h i t) 12).1
  let u := Sl.al t (h.step i)
  if u ≤ 0 ∨ p.1 ≠ u then Fx.none else Fx.of p.2
/-- A slot is written. -/
def write (S : Sv) (n : List UInt8) (h : Hd) (i : Nat) (t v : Int) : Sv :=
  let a := at_ h i t
  let S1 := (Vf.write S n a [0, 0, 0, 0]).1
  let S2 := (Vf.write S1 n (a + 4) (Sl.beb v 8)).1
  (Vf.write S2 n a (Sl.beb (Sl.lim (Sl.al t (h.step i))) 4)).1
/-- The values of one archive that are the next one's slot. -/
def vals (fs : List Fl) (n : List UInt8) (h : Hd) (i : Nat) (t : Int) (k : Nat) : List Vl :=
  (List.range k).map fun (j : Nat) => value fs n h i (Sl.al t (h.step (i + 1)) + (j : Int) * h.step i)
def many (h : Hd) (i : Nat) : Nat := (h.step (i + 1) / h.step i).toNat
/-- What was laid in an archive goes on to the next one. -/
def passes (S : Sv) (n : List UInt8) (h : Hd) (i : Nat) (t : Int) : Sv × Bool :=
  let v := Ag.put h.ag h.xf (vals S.now n h i t (many h i))
  if v.ok = false ∨ Sl.al t (h.step (i + 1)) = 0 then (S, false) else (write S n h (i + 1) t v.n, true)
/-- On and on: from archive k, at most m times. -/
def climb (n : List UInt8) (h : Hd) (t : Int) : Nat → Sv → Nat → Sv
  | 0, S, _ => S
  | m + 1, S, k => if (passes S n h k t).2 = true then climb n h t m (passes S n h k t).1 (k + 1) else S
/-- The first archive from i on that covers a time. -/
def first (h : Hd) (d : Int) : Nat → Nat → Option Nat
  | 0, _ => none
  | m + 1, i => if d < h.step i * h.cnt i then some i else first h d m (i + 1)
/-- A point is laid, or passed over. -/
def lays (S : Sv) (n : List UInt8) (h : Hd) (now : Int) (p : Int × Int) : Sv × Bool :=
  if p.1 < 1 ∨ now < p.1 ∨ Fx.inR p.2 = false then (S, false)
  else match first h (now - p.1) h.l.length 0 with
    | none => (S, false)
    | some i => if Sl.al p.1 (h.step i) = 0 then (S, false) else (climb n h p.1 (h.l.length - 1 - i) (write S n h i p.1 p.2) i, true)
/-- Points one by one. -/
def layAll (n : List UInt8) (h : Hd) (now : Int) : List (Int × Int) → Sv → Int → Sv × Int
  | [], S, c => (S, c)
  | p :: l, S, c => layAll n h now l (lays S n h now p).1 (if (lays S n h now p).2 = true then c + 1 else c)
def time (now : Int) : Bool := decide (1 ≤ now ∧ now ≤ 4294967295)
/-- Update: the files, the number, the error. -/
def update (S : Sv) (n : List UInt8) (now : Int) (l : List (Int × Int)) : Sv × Int × Int :=
  let R := info S.now n
  if R.2 ≠ 0 then (S, 0, R.2) else if time now = false then (S, 0, 1)
  else
    let U := layAll n R.1 now l S 0
    ({ U.1 with was := U.1.now, l := [] }, U.2, 0)
/-- Ring: the points of an archive, and the error. -/
def ring (fs : List Fl) (n : List UInt8) (i : Int) : List (Int × Int) × Int :=
  let R := info fs n
  if R.2 ≠ 0 then ([], R.2) else if i < 0 ∨ (R.1.l.length : Int) ≤ i then ([], 1)
  else ((List.range (R.1.cnt i.toNat).toNat).map fun (k : Nat) => pt (Vf.read fs n (R.1.offs i + 12 * (k : Int)) 12).1, 0)
/-- A series: its start, its step, its values. -/
structure Se where
  start : Int
  step : Int
  vals : List Vl
def clip (h : Hd) (now from_ : Int) : Int := max (max 0 from_) (now - h.span)
/-- Fetch: the series, and the error. -/
def fetch (fs : List Fl) (n : List UInt8) (now from_ until_ : Int) : Option Se × Int :=
  let R := info fs n
  if R.2 ≠ 0 then (none, R.2) else if time now = false then (none, 1)
  else if until_ < from_ ∨ now < from_ ∨ until_ < 0 ∨ until_ < now - R.1.span then (none, 7)
  else
    let f := clip R.1 now from_
    let u := min until_ now
    match first R.1 (now - f - 1) R.1.l.length 0 with
    | none => (none, 7)
    | some i =>
      let s := R.1.step i
      let a := Sl.al f s + s
      let e := if Sl.al u s + s ≤ a then a + s else Sl.al u s + s
      (some ⟨a, s, (List.range ((e - a) / s).toNat).map fun (k : Nat) => value fs n R.1 i (a + (k : Int) * s)⟩, 0)
end Wp
end Go.Proofs.YtbhfapbhlkgmfaaDoor

namespace Go.Proofs.YtbhfapbhlkgmfaaDoor
open Go.RowKit
open Me

end Go.Proofs.YtbhfapbhlkgmfaaDoor

namespace Go.Proofs.YtbhfapbhlkgmfaaDoor
open Go.RowKit
open Me Vf
namespace Wp

/-- The document's files at fs in the state S, when c acts were played at most; the blocks of V are none of its own. -/
def RO (w : World) (V : Nat → Prop) (fs c : Nat) (S : Sv) : Prop :=
  ∃ G lr nv wv lv ys, At w G fs lr S nv wv lv ys ∧ Vf.Inv c S ∧ ∀ b, V b → b < w.heap.size ∧ ¬ G b ∧ b ≠ fs ∧ lr ≠ some b
theorem RO.below {w w' : World} {V : Nat → Prop} {fs c : Nat} {S : Sv} (h : RO w V fs c S) (b : Below w.heap.size w w') : RO w' V fs c S := by
  obtain ⟨G, lr, nv, wv, lv, ys, h1, h2, h3⟩ := h
  exact ⟨G, lr, nv, wv, lv, ys, h1.below b, h2, fun i hi => ⟨Nat.lt_of_lt_of_le (h3 i hi).1 b.size, (h3 i hi).2⟩⟩
/-- Blocks that were laid since are none of its own. -/
theorem RO.add {w w' : World} {V V' : Nat → Prop} {fs c : Nat} {S : Sv} (h : RO w V fs c S) (b : Below w.heap.size w w') (hV : ∀ i, V' i → V i ∨ (w.heap.size ≤ i ∧ i < w'.heap.size)) : RO w' V' fs c S := by
  obtain ⟨G, lr, nv, wv, lv, ys, h1, h2, h3⟩ := h
  have hlr : ∀ g, lr = some g → g < w.heap.size := fun g hg => (h1.own.lt g (h1.row.trans hg)).2
  have hfs := h1.fsLt
  refine ⟨G, lr, nv, wv, lv, ys, h1.below b, h2, fun i hi => ?_⟩
  rcases hV i hi with hv | ⟨ha, hb⟩
  · exact ⟨Nat.lt_of_lt_of_le (h3 i hv).1 b.size, (h3 i hv).2⟩
  · exact ⟨hb, fun hg => by have := h1.lt i hg; omega, fun e => by omega, fun e => by have := hlr i e; omega⟩
/-- What is changed in blocks of V changes nothing. -/
theorem RO.kp {w w' : World} {V O : Nat → Prop} {fs c : Nat} {S : Sv} (h : RO w V fs c S) (k : Kp O w w') (hO : ∀ i, O i → V i) : RO w' V fs c S := by
  obtain ⟨G, lr, nv, wv, lv, ys, h1, h2, h3⟩ := h
  exact ⟨G, lr, nv, wv, lv, ys, h1.kp k (fun i hi => (h3 i (hO i hi)).2), h2, fun i hi => ⟨Nat.lt_of_lt_of_le (h3 i hi).1 k.size, (h3 i hi).2⟩⟩
theorem RO.more {w : World} {V V' : Nat → Prop} {fs c c' : Nat} {S : Sv} (h : RO w V fs c S) (hc : c ≤ c') (hV : ∀ i, V' i → V i) : RO w V' fs c' S := by
  obtain ⟨G, lr, nv, wv, lv, ys, h1, h2, h3⟩ := h
  exact ⟨G, lr, nv, wv, lv, ys, h1, h2.mono hc, fun i hi => h3 i (hV i hi)⟩
theorem RO.vlt {w : World} {V : Nat → Prop} {fs c : Nat} {S : Sv} (h : RO w V fs c S) : ∀ i, V i → i < w.heap.size := by
  obtain ⟨G, lr, nv, wv, lv, ys, h1, h2, h3⟩ := h
  exact fun i hi => (h3 i hi).1
theorem RO.inv {w : World} {V : Nat → Prop} {fs c : Nat} {S : Sv} (h : RO w V fs c S) : Vf.Inv c S := by
  obtain ⟨G, lr, nv, wv, lv, ys, h1, h2, h3⟩ := h
  exact h2
theorem RO.of_next {w w' : World} {V G : Nat → Prop} {fs c' : Nat} {lr : Option Nat} {S : Sv} {R : Sv × Int} {nv wv lv : Value} {ys : List Value} {e : Ending} (h1 : At w G fs lr S nv wv lv ys) (h3 : ∀ b, V b → b < w.heap.size ∧ ¬ G b ∧ b ≠ fs ∧ lr ≠ some b)
    (hi : Vf.Inv c' R.1) (hn : Vf.Next w G fs lr R e w') : e = .returned (.int .i64 R.2) ∧ RO w' V fs c' R.1 ∧ Kp (fun b => ¬ V b) w w' := by
  obtain ⟨rfl, G', lr', nv', wv', lv', ys', q1, q2, q3, q4⟩ := hn
  refine ⟨rfl, ⟨G', lr', nv', wv', lv', ys', q1, hi, fun b hb => ⟨Nat.lt_of_lt_of_le (h3 b hb).1 q2.size, fun hg => ?_, (h3 b hb).2.2.1, fun e => ?_⟩⟩, q2.mono fun b _ ho hv => ?_⟩
  · rcases q3 b hg with h | h
    · exact (h3 b hb).2.1 h
    · have := (h3 b hb).1; omega
  · rcases q4 b e with h | h
    · exact (h3 b hb).2.2.2 h
    · have := (h3 b hb).1; omega
  · rcases ho with rfl | e
    · exact (h3 b hv).2.2.1 rfl
    · exact (h3 b hv).2.2.2 e
end Wp
open Wp

section
variable {w : World} {V : Nat → Prop} {fs c : Nat} {S : Sv}
end
end Go.Proofs.YtbhfapbhlkgmfaaDoor

namespace Go.Proofs.YtbhfapbhlkgmfaaDoor
open Go.RowKit Go.Sort
open Wh (At)

set_option maxHeartbeats 1000000 in
theorem side_any (s c t d : Int) (h1 : 1 ≤ s) (h2 : s ≤ 16777216) (h3 : 1 ≤ c) (h4 : c ≤ 16777216) (h5 : 1 ≤ t) (h6 : t ≤ 16777216) (h7 : 1 ≤ d) (h8 : d ≤ 16777216) (w : World) :
    Calls Tryd.prog 34 #[.agg #[.int .i64 s, .int .i64 c], .agg #[.int .i64 t, .int .i64 d]] w fun e w' => e = .returned (.bool (Wh.fol (s, c) (t, d))) ∧ Below w.heap.size w w' := by
  obtain ⟨kc, kf⟩ := kgrown ((w.alloc (.cells #[.int .i64 s, .int .i64 c] 30)).alloc (.cells #[.int .i64 t, .int .i64 d] 30))
  have bs := Wh.mul_bd h1 h2 h3 h4
  have bt := Wh.mul_bd h5 h6 h7 h8
  have hw1 : IntKind.i64.wrap (s * c) = s * c := IntWalk.i64_in _ (by omega)
  have hw2 : IntKind.i64.wrap (t * d) = t * d := IntWalk.i64_in _ (by omega)
  have hm : t.tmod s = t % s := Int.tmod_eq_emod_of_nonneg (by omega)
  have hd : t.tdiv s = t / s := Int.tdiv_eq_ediv_of_nonneg (by omega)
  have hz : (s == 0) = false := by simp; omega
  have hdb : 0 ≤ t / s ∧ t / s ≤ t := ⟨Int.ediv_nonneg (by omega) (by omega), Int.ediv_le_self _ (by omega)⟩
  have hdw : IntKind.i64.wrap (t / s) = t / s := IntWalk.i64_in _ (by omega)
  by_cases g1 : t ≤ s
  · have H := Lib.hid (Wh.fol_1 (a := (s, c)) (b := (t, d)) g1)
    have e1 : decide (s < t) = false := decide_eq_false (by omega)
    go_enter Tryd.func34, Tryd.ntmps34
    go_wp2_with fail
    refine wp_region_quiet_below (by kernel_rfl) (by kernel_rfl) ?_
    repeat (go_big_quiet_step (fail))
    refine wpQuiet_nil ?_
    intro _ hw'
    obtain ⟨⟨dq, osq⟩, hw''⟩ := hw'
    subst hw''
    go_wp2
    go_ret
    exact ⟨by rw [H.out]; rfl, (by repeat (first | exact Below.refl _ _ | assumption | refine Below.setCell ?_ (by first | (simp; done) | omega | (simp; omega) | (simp at *; omega)) _ | refine Below.alloc ?_ (by first | (simp; done) | omega | (simp; omega) | (simp at *; omega)) _ | refine Below.drew ?_ | (refine Below.trans ?_ (Below.mono (by assumption) (by first | (simp; done) | omega | (simp; omega) | (simp at *; omega)))) | (refine Below.trans ?_ (Below.mono (below_regrown _ _ _) (by first | (simp; done) | omega | (simp; omega) | (simp at *; omega))))))⟩
  · have e1 : decide (s < t) = true := decide_eq_true (by omega)
    by_cases g2 : t % s = 0
    · have e2 : (t % s == 0) = true := by simp [g2]
      by_cases g3 : t * d ≤ s * c
      · have H := Lib.hid (Wh.fol_3 (a := (s, c)) (b := (t, d)) g3)
        have e3 : decide (s * c < t * d) = false := decide_eq_false (by omega)
        clear g2
        go_enter Tryd.func34, Tryd.ntmps34
        go_wp2_with fail
        refine wp_region_quiet_below (by kernel_rfl) (by kernel_rfl) ?_
        repeat (go_big_quiet_step (fail))
        refine wpQuiet_nil ?_
        intro _ hw'
        obtain ⟨⟨dq, osq⟩, hw''⟩ := hw'
        subst hw''
        go_wp2
        go_ret
        exact ⟨by rw [H.out]; rfl, (by repeat (first | exact Below.refl _ _ | assumption | refine Below.setCell ?_ (by first | (simp; done) | omega | (simp; omega) | (simp at *; omega)) _ | refine Below.alloc ?_ (by first | (simp; done) | omega | (simp; omega) | (simp at *; omega)) _ | refine Below.drew ?_ | (refine Below.trans ?_ (Below.mono (by assumption) (by first | (simp; done) | omega | (simp; omega) | (simp at *; omega)))) | (refine Below.trans ?_ (Below.mono (below_regrown _ _ _) (by first | (simp; done) | omega | (simp; omega) | (simp at *; omega))))))⟩
      · have H := Lib.hid (Wh.fol_4 (a := (s, c)) (b := (t, d)) (by show s < t; omega) g2 (by show s * c < t * d; omega))
        have e3 : decide (s * c < t * d) = true := decide_eq_true (by omega)
        clear g2
        go_enter Tryd.func34, Tryd.ntmps34
        go_wp2_with fail
        refine wp_region_quiet_below (by kernel_rfl) (by kernel_rfl) ?_
        repeat (go_big_quiet_step (fail))
        refine wpQuiet_nil ?_
        intro _ hw'
        obtain ⟨⟨dq, osq⟩, hw''⟩ := hw'
        subst hw''
        go_wp2
        go_ret
        exact ⟨by rw [H.out]; rfl, (by repeat (first | exact Below.refl _ _ | assumption | refine Below.setCell ?_ (by first | (simp; done) | omega | (simp; omega) | (simp at *; omega)) _ | refine Below.alloc ?_ (by first | (simp; done) | omega | (simp; omega) | (simp at *; omega)) _ | refine Below.drew ?_ | (refine Below.trans ?_ (Below.mono (by assumption) (by first | (simp; done) | omega | (simp; omega) | (simp at *; omega)))) | (refine Below.trans ?_ (Below.mono (below_regrown _ _ _) (by first | (simp; done) | omega | (simp; omega) | (simp at *; omega))))))⟩
    · have H := Lib.hid (Wh.fol_2 (a := (s, c)) (b := (t, d)) g2)
      have e2 : (t % s == 0) = false := by simp [g2]
      clear g2
      go_enter Tryd.func34, Tryd.ntmps34
      go_wp2_with fail
      refine wp_region_quiet_below (by kernel_rfl) (by kernel_rfl) ?_
      repeat (go_big_quiet_step (fail))
      refine wpQuiet_nil ?_
      intro _ hw'
      obtain ⟨⟨dq, osq⟩, hw''⟩ := hw'
      subst hw''
      go_wp2
      go_ret
      exact ⟨by rw [H.out]; rfl, (by repeat (first | exact Below.refl _ _ | assumption | refine Below.setCell ?_ (by first | (simp; done) | omega | (simp; omega) | (simp at *; omega)) _ | refine Below.alloc ?_ (by first | (simp; done) | omega | (simp; omega) | (simp at *; omega)) _ | refine Below.drew ?_ | (refine Below.trans ?_ (Below.mono (by assumption) (by first | (simp; done) | omega | (simp; omega) | (simp at *; omega)))) | (refine Below.trans ?_ (Below.mono (below_regrown _ _ _) (by first | (simp; done) | omega | (simp; omega) | (simp at *; omega))))))⟩
end Go.Proofs.YtbhfapbhlkgmfaaDoor

namespace Go.Proofs.YtbhfapbhlkgmfaaDoor
open Go.RowKit Go.Sort
open Wh (At)

theorem Wh.av_run {l : List (Int × Int)} {k : Nat} (hk : k ≤ l.length) (h : 1048576 < Wh.run l k)   : Wh.av l = false := by
  cases ha : Wh.alls l l.length
  · unfold Wh.av; simp [ha]
  · have := Wh.run_le (Wh.alls_cnt ha) k hk
    exact Wh.av_big (by omega)

theorem lowBox {w W : World} {o : Obj} (h : Below (w.heap.size + 1) (w.alloc o) W) : Below w.heap.size w W := ((Below.refl _ _).alloc (Nat.le_refl _) _).trans (h.mono (Nat.le_succ _))

set_option maxHeartbeats 4000000 in
theorem may_some (ag xf : Int) (g1 : 1 ≤ ag) (g2 : ag ≤ 5) (x1 : 0 ≤ xf) (x2 : xf ≤ 1000000) (l : List (Int × Int)) (b off cap : Nat) (w : World) (hA : Ars w b off l) (hcap : l.length ≤ cap) (h1 : 1 ≤ l.length) (h8 : l.length ≤ 8) :
    Calls Tryd.prog 18 #[.agg #[.int .i64 ag, .int .i64 xf, .slice (some ⟨b, off, none⟩) l.length cap]] w fun e w' => e = .returned (.bool (Wh.av l)) ∧ Below w.heap.size w w' := by
  have HF : Hid (∀ k, k < l.length → Wh.stp l k = false → Wh.av l = false) := Lib.hid fun k hk h => Wh.av_stp hk h
  have HA := Lib.hid hA
  have H1 : Hid (∀ k, Wh.num (At l k).1 = false → Wh.stp l k = false) := Lib.hid fun k => Wh.stp_f1
  have H2 : Hid (∀ k, Wh.num (At l k).2 = false → Wh.stp l k = false) := Lib.hid fun k => Wh.stp_f2
  have H3 : Hid (∀ k, 0 < k → Wh.fol (At l (k - 1)) (At l k) = false → Wh.stp l k = false) := Lib.hid fun k => Wh.stp_f3
  have HT : Hid (∀ k, Wh.alls l k = true → Wh.num (At l k).1 = true → Wh.num (At l k).2 = true → (k = 0 ∨ Wh.fol (At l (k - 1)) (At l k) = true) → Wh.alls l (k + 1) = true) := Lib.hid fun k h h1 h2 h3 => Wh.alls_succ h (Wh.stp_t h1 h2 h3)
  have HB : Hid (∀ k m, k < m → Wh.alls l m = true → (1 ≤ (At l k).1 ∧ (At l k).1 ≤ 16777216) ∧ (1 ≤ (At l k).2 ∧ (At l k).2 ≤ 16777216)) := Lib.hid fun k m => Wh.alls_num
  have HU : Hid (∀ k, Wh.run l (k + 1) = Wh.run l k + 12 + 12 * (At l k).2) := Lib.hid fun k => Wh.run_succ l k
  have HG : Hid (∀ k, k ≤ l.length → 1048576 < Wh.run l k → Wh.av l = false) := Lib.hid fun k hk h => Wh.av_run hk h
  have HZ : Hid (Wh.run l 0 = 16) := Lib.hid (Wh.run_zero l)
  have HN : Hid (∀ k, 16 ≤ Wh.run l k ∧ Wh.run l k ≤ 1048576 → 16 ≤ Wh.run l k ∧ Wh.run l k ≤ 1048576) := Lib.hid fun _ h => h
  clear hA
  go_enter Tryd.func18, Tryd.ntmps18
  go_wp2
  go_loopw [3, 4] (fun n i wr => ∃ j : Nat, j ≤ l.length ∧ i = .int .i64 j ∧ n = .int .i64 (Wh.run l j) ∧ Hid (Wh.alls l j = true) ∧ (16 ≤ Wh.run l j ∧ Wh.run l j ≤ 1048576) ∧ Below (w.heap.size + 1) (w.alloc (.cells #[.int .i64 ag, .int .i64 xf, .slice (some ⟨b, off, none⟩) l.length cap] 24)) wr) (fun _ i _ => l.length - (intOf i).toNat)
  case atStart => exact ⟨0, Nat.zero_le _, rfl, by rw [HZ.out], Lib.hid rfl, by rw [HZ.out]; omega, Below.refl _ _⟩
  case round =>
    obtain ⟨j, hj, rfl, rfl, hal, hrn, hR⟩ := hrel
    have hx2 : wr.cell? ⟨w.heap.size, 2, none⟩ = some (.slice (some ⟨b, off, none⟩) l.length cap) := (hR.cell (p := ⟨w.heap.size, 2, none⟩) (Nat.lt_succ_self _)).trans (by simp [go_sem])
    have hsz : w.heap.size < wr.heap.size := by have := hR.size; simp at this; omega
    have hAr := HA.out.below (lowBox hR)
    have hbl := hAr.lt
    have HR := Lib.hid hR
    clear hR HN
    by_cases hlt : j < l.length
    · have c0 := hAr.st j hlt
      have c1 := hAr.ct j hlt
      have HJ := Lib.hid (HF.out j hlt)
      have HJ1 := Lib.hid (H1.out j)
      have HJ2 := Lib.hid (H2.out j)
      have HJ3 := Lib.hid (H3.out j)
      have HJT := Lib.hid (HT.out j hal.out)
      have HJU := Lib.hid (HU.out j)
      have HJG : Hid (1048576 < Wh.run l j + 12 + 12 * (At l j).2 → Wh.av l = false) := Lib.hid fun h => HG.out (j + 1) (by omega) (by rw [HU.out]; exact h)
      have hp : (∀ m, j = m + 1 → (1 ≤ (At l m).1 ∧ (At l m).1 ≤ 16777216) ∧ (1 ≤ (At l m).2 ∧ (At l m).2 ≤ 16777216)) := fun m e => HB.out m j (by omega) hal.out
      have HP := Lib.hid hp
      have HPC : Hid (∀ m, j = m + 1 → wr.cell? ⟨b, off + m * 2, none⟩ = some (.int .i64 (At l m).1) ∧ wr.cell? ⟨b, off + m * 2 + 1, none⟩ = some (.int .i64 (At l m).2)) := Lib.hid fun m e => ⟨hAr.st m (by omega), hAr.ct m (by omega)⟩
      clear hp hAr HF HA H1 H2 H3 HT HB HU HG HZ hal
      by_cases k1 : (At l j).1 < 1
      · have HQ := Lib.hid (HJ.out (HJ1.out (by unfold Wh.num; simp; omega)))
        have d1 : decide ((At l j).1 < 1) = true := decide_eq_true k1
        clear HJ HJ1 HJ2 HJ3 HJT HJU HJG HP HPC
        generalize At l j = a at *
        obtain ⟨s, c⟩ := a
        dsimp only at *
        go_wp2_with fail
        obtain ⟨kc, kf⟩ := kgrown (wr.alloc (.cells #[.int .i64 s, .int .i64 c] 30))
        refine wp_region_quiet_below (by kernel_rfl) (by kernel_rfl) ?_
        repeat (go_big_quiet_step (fail))
        refine wpQuiet_nil ?_
        intro _ hw'
        obtain ⟨⟨dq, osq⟩, hw''⟩ := hw'
        subst hw''
        go_wp2
        go_ret
        exact ⟨by rw [HQ.out]; rfl, (HR.out.alloc (by have := HR.out.size; simp at this; omega) _).trans ((below_regrown _ _ _).mono (by have := HR.out.size; simp at this ⊢; omega)) |> lowBox⟩
      have d1 : decide ((At l j).1 < 1) = false := decide_eq_false k1
      by_cases k2 : 16777216 < (At l j).1
      · have HQ := Lib.hid (HJ.out (HJ1.out (by unfold Wh.num; simp; omega)))
        have d2 : decide (16777216 < (At l j).1) = true := decide_eq_true k2
        clear HJ HJ1 HJ2 HJ3 HJT HJU HJG HP HPC
        generalize At l j = a at *
        obtain ⟨s, c⟩ := a
        dsimp only at *
        go_wp2_with fail
        obtain ⟨kc, kf⟩ := kgrown (wr.alloc (.cells #[.int .i64 s, .int .i64 c] 30))
        refine wp_region_quiet_below (by kernel_rfl) (by kernel_rfl) ?_
        repeat (go_big_quiet_step (fail))
        refine wpQuiet_nil ?_
        intro _ hw'
        obtain ⟨⟨dq, osq⟩, hw''⟩ := hw'
        subst hw''
        go_wp2
        go_ret
        exact ⟨by rw [HQ.out]; rfl, (HR.out.alloc (by have := HR.out.size; simp at this; omega) _).trans ((below_regrown _ _ _).mono (by have := HR.out.size; simp at this ⊢; omega)) |> lowBox⟩
      have d2 : decide (16777216 < (At l j).1) = false := decide_eq_false k2
      by_cases k3 : (At l j).2 < 1
      · have HQ := Lib.hid (HJ.out (HJ2.out (by unfold Wh.num; simp; omega)))
        have d3 : decide ((At l j).2 < 1) = true := decide_eq_true k3
        clear HJ HJ1 HJ2 HJ3 HJT HJU HJG HP HPC
        generalize At l j = a at *
        obtain ⟨s, c⟩ := a
        dsimp only at *
        go_wp2_with fail
        obtain ⟨kc, kf⟩ := kgrown (wr.alloc (.cells #[.int .i64 s, .int .i64 c] 30))
        refine wp_region_quiet_below (by kernel_rfl) (by kernel_rfl) ?_
        repeat (go_big_quiet_step (fail))
        refine wpQuiet_nil ?_
        intro _ hw'
        obtain ⟨⟨dq, osq⟩, hw''⟩ := hw'
        subst hw''
        go_wp2
        go_ret
        exact ⟨by rw [HQ.out]; rfl, (HR.out.alloc (by have := HR.out.size; simp at this; omega) _).trans ((below_regrown _ _ _).mono (by have := HR.out.size; simp at this ⊢; omega)) |> lowBox⟩
      have d3 : decide ((At l j).2 < 1) = false := decide_eq_false k3
      by_cases k4 : 16777216 < (At l j).2
      · have HQ := Lib.hid (HJ.out (HJ2.out (by unfold Wh.num; simp; omega)))
        have d4 : decide (16777216 < (At l j).2) = true := decide_eq_true k4
        clear HJ HJ1 HJ2 HJ3 HJT HJU HJG HP HPC
        generalize At l j = a at *
        obtain ⟨s, c⟩ := a
        dsimp only at *
        go_wp2_with fail
        obtain ⟨kc, kf⟩ := kgrown (wr.alloc (.cells #[.int .i64 s, .int .i64 c] 30))
        refine wp_region_quiet_below (by kernel_rfl) (by kernel_rfl) ?_
        repeat (go_big_quiet_step (fail))
        refine wpQuiet_nil ?_
        intro _ hw'
        obtain ⟨⟨dq, osq⟩, hw''⟩ := hw'
        subst hw''
        go_wp2
        go_ret
        exact ⟨by rw [HQ.out]; rfl, (HR.out.alloc (by have := HR.out.size; simp at this; omega) _).trans ((below_regrown _ _ _).mono (by have := HR.out.size; simp at this ⊢; omega)) |> lowBox⟩
      have d4 : decide (16777216 < (At l j).2) = false := decide_eq_false k4
      have q1 : 1 ≤ (At l j).1 := by omega
      have q2 : (At l j).1 ≤ 16777216 := by omega
      have q3 : 1 ≤ (At l j).2 := by omega
      have q4 : (At l j).2 ≤ 16777216 := by omega
      have HJT := Lib.hid (HJT.out (Wh.num_t q1 q2) (Wh.num_t q3 q4))
      clear k1 k2 k3 k4
      cases j with
      | zero =>
        have HQ := Lib.hid (HJT.out (.inl rfl))
        simp only [Nat.zero_mul, Nat.add_zero] at c0 c1
        clear HJ HJ1 HJ2 HJ3 HJT HP HPC
        generalize Wh.run l 0 = q at *
        generalize At l 0 = a at *
        obtain ⟨s, c⟩ := a
        dsimp only at *
        by_cases k5 : 1048576 < q + 12 + 12 * c
        · have HQ := Lib.hid (HJG.out k5)
          clear HJG
          go_wp2_with fail
          obtain ⟨kc, kf⟩ := kgrown (wr.alloc (.cells #[.int .i64 s, .int .i64 c] 30))
          refine wp_region_quiet_below (by kernel_rfl) (by kernel_rfl) ?_
          repeat (go_big_quiet_step (fail))
          refine wpQuiet_nil ?_
          intro _ hw'
          obtain ⟨⟨dq, osq⟩, hw''⟩ := hw'
          subst hw''
          go_wp2
          go_ret
          exact ⟨by rw [HQ.out]; rfl, lowBox ((HR.out.alloc (by have := HR.out.size; simp at this; omega) _).trans ((below_regrown _ _ _).mono (by have := HR.out.size; simp at this ⊢; omega)))⟩
        · clear HJG
          go_wp2_with fail
          obtain ⟨kc, kf⟩ := kgrown (wr.alloc (.cells #[.int .i64 s, .int .i64 c] 30))
          refine wp_region_quiet_below (by kernel_rfl) (by kernel_rfl) ?_
          repeat (go_big_quiet_step (fail))
          refine wpQuiet_nil ?_
          intro _ hw'
          obtain ⟨⟨dq, osq⟩, hw''⟩ := hw'
          subst hw''
          go_wp2
          go_roundw
          case rel => exact ⟨1, by omega, by go_num, by rw [HJU.out], HQ, by rw [HJU.out]; omega, (HR.out.alloc (by have := HR.out.size; simp at this; omega) _).trans ((below_regrown _ _ _).mono (by have := HR.out.size; simp at this ⊢; omega))⟩
          case measure => simp [intOf]; omega
      | succ m =>
        obtain ⟨⟨p1, p2⟩, p3, p4⟩ := HP.out m rfl
        obtain ⟨e0, e1⟩ := HPC.out m rfl
        have HK3 : Hid (Wh.fol (At l m) (At l (m + 1)) = false → Wh.av l = false) := Lib.hid fun h => HJ.out (HJ3.out (by omega) h)
        have HKT : Hid (Wh.fol (At l m) (At l (m + 1)) = true → Wh.alls l (m + 1 + 1) = true) := Lib.hid fun h => HJT.out (.inr h)
        have hg : decide ((0 : Int) < (m : Int) + 1) = true := decide_eq_true (by omega)
        have HFO := Lib.hid (side_any (At l m).1 (At l m).2 (At l (m + 1)).1 (At l (m + 1)).2 p1 p2 p3 p4 q1 q2 q3 q4)
        have hml : m + 1 ≤ l.length := by omega
        clear HJ HJ1 HJ2 HJ3 HJT HP HPC
        generalize Wh.run l (m + 1) = q at *
        generalize At l (m + 1) = a at *
        generalize At l m = a0 at *
        obtain ⟨s, c⟩ := a
        obtain ⟨s0, cc⟩ := a0
        dsimp only at *
        cases hfo : Wh.fol (s0, cc) (s, c)
        · have HQ := Lib.hid (HK3.out hfo)
          clear HK3 HKT
          go_wp2_with fail
          obtain ⟨kc, kf⟩ := kgrown (wr.alloc (.cells #[.int .i64 s, .int .i64 c] 30))
          refine wp_region_quiet_below (by kernel_rfl) (by kernel_rfl) ?_
          repeat (go_big_quiet_step ((go_at_call 34; exact Calls.regrown_of (HFO.out _))))
          refine wpQuiet_nil ?_
          intro _ hw'
          obtain ⟨⟨dq, osq⟩, hw''⟩ := hw'
          subst hw''
          go_wp2
          go_ret
          exact ⟨by rw [HQ.out]; rfl, lowBox ((HR.out.alloc (by have := HR.out.size; simp at this; omega) _).trans ((below_regrown _ _ _).mono (by have := HR.out.size; simp at this ⊢; omega)))⟩
        · have HQ := Lib.hid (HKT.out hfo)
          clear HK3 HKT
          by_cases k5 : 1048576 < q + 12 + 12 * c
          · have HQ := Lib.hid (HJG.out k5)
            clear HJG
            go_wp2_with fail
            obtain ⟨kc, kf⟩ := kgrown (wr.alloc (.cells #[.int .i64 s, .int .i64 c] 30))
            refine wp_region_quiet_below (by kernel_rfl) (by kernel_rfl) ?_
            repeat (go_big_quiet_step ((go_at_call 34; exact Calls.regrown_of (HFO.out _))))
            refine wpQuiet_nil ?_
            intro _ hw'
            obtain ⟨⟨dq, osq⟩, hw''⟩ := hw'
            subst hw''
            go_wp2
            go_ret
            exact ⟨by rw [HQ.out]; rfl, lowBox ((HR.out.alloc (by have := HR.out.size; simp at this; omega) _).trans ((below_regrown _ _ _).mono (by have := HR.out.size; simp at this ⊢; omega)))⟩
          · clear HJG
            go_wp2_with fail
            obtain ⟨kc, kf⟩ := kgrown (wr.alloc (.cells #[.int .i64 s, .int .i64 c] 30))
            refine wp_region_quiet_below (by kernel_rfl) (by kernel_rfl) ?_
            repeat (go_big_quiet_step ((go_at_call 34; exact Calls.regrown_of (HFO.out _))))
            refine wpQuiet_nil ?_
            intro _ hw'
            obtain ⟨⟨dq, osq⟩, hw''⟩ := hw'
            subst hw''
            go_wp2
            go_roundw
            case rel => exact ⟨m + 1 + 1, by omega, by go_num, by rw [HJU.out], HQ, by rw [HJU.out]; omega, (HR.out.alloc (by have := HR.out.size; simp at this; omega) _).trans ((below_regrown _ _ _).mono (by have := HR.out.size; simp at this ⊢; omega))⟩
            case measure => simp [intOf]; omega
    · obtain rfl : j = l.length := by omega
      obtain ⟨k, hk⟩ : ∃ k, l.length = k + 1 := ⟨l.length - 1, by omega⟩
      have c0 := hAr.st k (by omega)
      have c1 := hAr.ct k (by omega)
      obtain ⟨⟨p1, p2⟩, p3, p4⟩ := HB.out k l.length (by omega) hal.out
      have HQ : Hid (Wh.av l = decide ((At l k).1 * (At l k).2 ≤ 4294967295)) := Lib.hid (by
        have := Wh.av_end h1 h8 hal.out hrn.2
        rw [this]
        unfold Wh.lsp
        rw [hk]
        rfl)
      have bm := Wh.mul_bd p1 p2 p3 p4
      have hw : IntKind.i64.wrap ((At l k).1 * (At l k).2) = (At l k).1 * (At l k).2 := IntWalk.i64_in _ (by omega)
      clear hAr HF HA H1 H2 H3 HT HB HU HG HZ hal
      generalize hls : l.length = n at *
      have HLS := Lib.hid hls
      clear hls
      subst hk
      generalize At l k = a at *
      obtain ⟨s, c⟩ := a
      dsimp only at *
      generalize hmu : s * c = mu at *
      have HMU := Lib.hid hmu
      clear hmu
      have hw2 : IntKind.i64.wrap (s * c) = mu := by rw [HMU.out]; exact hw
      go_wp2
      go_ret
      exact ⟨by rw [HQ.out]; rfl, lowBox (HR.out.alloc (by have := HR.out.size; simp at this; omega) _)⟩
end Go.Proofs.YtbhfapbhlkgmfaaDoor

namespace Go.Proofs.YtbhfapbhlkgmfaaDoor
open Go.RowKit Go.Sort
open Wh (At)

set_option maxHeartbeats 1000000 in
theorem may_any (ag xf : Int) (l : List (Int × Int)) (A : Option Addr) (cap : Nat) (w : World) (h : Row w A l cap) :
    Calls Tryd.prog 18 #[.agg #[.int .i64 ag, .int .i64 xf, .slice A l.length cap]] w fun e w' => e = .returned (.bool (Wh.val ag xf l)) ∧ Below w.heap.size w w' := by
  have HX : Hid (ag < 1 ∨ 5 < ag ∨ xf < 0 ∨ 1000000 < xf ∨ Wh.av l = false → Wh.val ag xf l = false) := Lib.hid Wh.val_head
  by_cases k1 : ag < 1
  · have HQ := Lib.hid (HX.out (.inl k1))
    go_enter Tryd.func18, Tryd.ntmps18
    go_wp2
    go_ret
    exact ⟨by rw [HQ.out]; rfl, (by repeat (first | exact Below.refl _ _ | assumption | refine Below.setCell ?_ (by first | (simp; done) | omega | (simp; omega) | (simp at *; omega)) _ | refine Below.alloc ?_ (by first | (simp; done) | omega | (simp; omega) | (simp at *; omega)) _ | refine Below.drew ?_ | (refine Below.trans ?_ (Below.mono (by assumption) (by first | (simp; done) | omega | (simp; omega) | (simp at *; omega)))) | (refine Below.trans ?_ (Below.mono (below_regrown _ _ _) (by first | (simp; done) | omega | (simp; omega) | (simp at *; omega))))))⟩
  by_cases k2 : 5 < ag
  · have HQ := Lib.hid (HX.out (.inr (.inl k2)))
    go_enter Tryd.func18, Tryd.ntmps18
    go_wp2
    go_ret
    exact ⟨by rw [HQ.out]; rfl, (by repeat (first | exact Below.refl _ _ | assumption | refine Below.setCell ?_ (by first | (simp; done) | omega | (simp; omega) | (simp at *; omega)) _ | refine Below.alloc ?_ (by first | (simp; done) | omega | (simp; omega) | (simp at *; omega)) _ | refine Below.drew ?_ | (refine Below.trans ?_ (Below.mono (by assumption) (by first | (simp; done) | omega | (simp; omega) | (simp at *; omega)))) | (refine Below.trans ?_ (Below.mono (below_regrown _ _ _) (by first | (simp; done) | omega | (simp; omega) | (simp at *; omega))))))⟩
  by_cases k3 : xf < 0
  · have HQ := Lib.hid (HX.out (.inr (.inr (.inl k3))))
    go_enter Tryd.func18, Tryd.ntmps18
    go_wp2
    go_ret
    exact ⟨by rw [HQ.out]; rfl, (by repeat (first | exact Below.refl _ _ | assumption | refine Below.setCell ?_ (by first | (simp; done) | omega | (simp; omega) | (simp at *; omega)) _ | refine Below.alloc ?_ (by first | (simp; done) | omega | (simp; omega) | (simp at *; omega)) _ | refine Below.drew ?_ | (refine Below.trans ?_ (Below.mono (by assumption) (by first | (simp; done) | omega | (simp; omega) | (simp at *; omega)))) | (refine Below.trans ?_ (Below.mono (below_regrown _ _ _) (by first | (simp; done) | omega | (simp; omega) | (simp at *; omega))))))⟩
  by_cases k4 : 1000000 < xf
  · have HQ := Lib.hid (HX.out (.inr (.inr (.inr (.inl k4)))))
    go_enter Tryd.func18, Tryd.ntmps18
    go_wp2
    go_ret
    exact ⟨by rw [HQ.out]; rfl, (by repeat (first | exact Below.refl _ _ | assumption | refine Below.setCell ?_ (by first | (simp; done) | omega | (simp; omega) | (simp at *; omega)) _ | refine Below.alloc ?_ (by first | (simp; done) | omega | (simp; omega) | (simp at *; omega)) _ | refine Below.drew ?_ | (refine Below.trans ?_ (Below.mono (by assumption) (by first | (simp; done) | omega | (simp; omega) | (simp at *; omega)))) | (refine Below.trans ?_ (Below.mono (below_regrown _ _ _) (by first | (simp; done) | omega | (simp; omega) | (simp at *; omega))))))⟩
  by_cases k5 : l.length = 0
  · have HQ := Lib.hid (HX.out (.inr (.inr (.inr (.inr (Wh.av_nil k5))))))
    rw [k5]
    clear k5
    go_enter Tryd.func18, Tryd.ntmps18
    go_wp2
    go_ret
    exact ⟨by rw [HQ.out]; rfl, (by repeat (first | exact Below.refl _ _ | assumption | refine Below.setCell ?_ (by first | (simp; done) | omega | (simp; omega) | (simp at *; omega)) _ | refine Below.alloc ?_ (by first | (simp; done) | omega | (simp; omega) | (simp at *; omega)) _ | refine Below.drew ?_ | (refine Below.trans ?_ (Below.mono (by assumption) (by first | (simp; done) | omega | (simp; omega) | (simp at *; omega)))) | (refine Below.trans ?_ (Below.mono (below_regrown _ _ _) (by first | (simp; done) | omega | (simp; omega) | (simp at *; omega))))))⟩
  by_cases k6 : 8 < l.length
  · have HQ := Lib.hid (HX.out (.inr (.inr (.inr (.inr (Wh.av_long k6))))))
    go_enter Tryd.func18, Tryd.ntmps18
    go_wp2
    go_ret
    exact ⟨by rw [HQ.out]; rfl, (by repeat (first | exact Below.refl _ _ | assumption | refine Below.setCell ?_ (by first | (simp; done) | omega | (simp; omega) | (simp at *; omega)) _ | refine Below.alloc ?_ (by first | (simp; done) | omega | (simp; omega) | (simp at *; omega)) _ | refine Below.drew ?_ | (refine Below.trans ?_ (Below.mono (by assumption) (by first | (simp; done) | omega | (simp; omega) | (simp at *; omega)))) | (refine Below.trans ?_ (Below.mono (below_regrown _ _ _) (by first | (simp; done) | omega | (simp; omega) | (simp at *; omega))))))⟩
  obtain ⟨b, off, rfl, hA⟩ := h.2 (by omega)
  rw [Wh.val_av (by omega) (by omega) (by omega) (by omega)]
  exact may_some ag xf (by omega) (by omega) (by omega) (by omega) l b off cap w hA h.1 (by omega) (by omega)

set_option maxHeartbeats 1000000 in
theorem rsize_any (ag xf : Int) (l : List (Int × Int)) (A : Option Addr) (cap : Nat) (w : World) (h : Row w A l cap) :
    Calls Tryd.prog 19 #[.agg #[.int .i64 ag, .int .i64 xf, .slice A l.length cap]] w fun e w' => e = .returned (.int .i64 (Wh.size ag xf l)) ∧ Below w.heap.size w w' := by
  have HV : Hid (∀ W, Below w.heap.size w W → Calls Tryd.prog 18 #[.agg #[.int .i64 ag, .int .i64 xf, .slice A l.length cap]] W fun e w' => e = .returned (.bool (Wh.val ag xf l)) ∧ Below W.heap.size W w') := Lib.hid fun W hb => may_any ag xf l A cap W (h.below hb)
  cases hv : Wh.val ag xf l
  · rw [hv] at HV
    have HQ : Hid (Wh.size ag xf l = 0) := Lib.hid (by unfold Wh.size; rw [hv]; rfl)
    clear hv h
    go_enter Tryd.func19, Tryd.ntmps19
    go_wp2_with (go_at_call 18; go_must (refine (HV.out _ ((Below.refl _ _).alloc (Nat.le_refl _) _)).mono ?_; rintro e w' ⟨rfl, hb⟩; obtain ⟨hc, hf⟩ := bcell hb; (try have hz0 : w.heap.size < w'.heap.size := Nat.lt_of_lt_of_le (by first | assumption | (simp; done) | (simp; omega)) hb.size); (try have hz1 : w.heap.size + 1 < w'.heap.size := Nat.lt_of_lt_of_le (by first | assumption | (simp; done) | (simp; omega)) hb.size); (try have hz2 : w.heap.size + 1 + 1 < w'.heap.size := Nat.lt_of_lt_of_le (by first | assumption | (simp; done) | (simp; omega)) hb.size); have hz := hb.size; (try simp at hz)))
    go_ret
    exact ⟨by rw [HQ.out]; rfl, (by repeat (first | exact Below.refl _ _ | assumption | refine Below.setCell ?_ (by first | (simp; done) | omega | (simp; omega) | (simp at *; omega)) _ | refine Below.alloc ?_ (by first | (simp; done) | omega | (simp; omega) | (simp at *; omega)) _ | refine Below.drew ?_ | (refine Below.trans ?_ (Below.mono (by assumption) (by first | (simp; done) | omega | (simp; omega) | (simp at *; omega)))) | (refine Below.trans ?_ (Below.mono (below_regrown _ _ _) (by first | (simp; done) | omega | (simp; omega) | (simp at *; omega))))))⟩
  · rw [hv] at HV
    have HQ : Hid (Wh.size ag xf l = Wh.run l l.length) := Lib.hid (by unfold Wh.size; rw [hv]; rfl)
    obtain ⟨b, off, rfl, hA, hcap, a1, a2, a3, a4, _⟩ := row_val h hv
    have HA := Lib.hid hA
    have HB : Hid (∀ i, i ≤ l.length → 16 ≤ Wh.run l i ∧ Wh.run l i ≤ 2000000000) := Lib.hid fun i hi => Wh.run_bd a2 (Wh.alls_cnt a3) i hi
    have HN : Hid (∀ i, i < l.length → 1 ≤ (At l i).2 ∧ (At l i).2 ≤ 16777216) := Lib.hid (Wh.alls_cnt a3)
    have HZ := Lib.hid (Wh.run_zero l)
    have HS := Lib.hid (Wh.run_succ l)
    clear hv h hA a3 a4
    go_enter Tryd.func19, Tryd.ntmps19
    go_wp2_with (go_at_call 18; go_must (refine (HV.out _ ((Below.refl _ _).alloc (Nat.le_refl _) _)).mono ?_; rintro e w' ⟨rfl, hb⟩; obtain ⟨hc, hf⟩ := bcell hb; (try have hz0 : w.heap.size < w'.heap.size := Nat.lt_of_lt_of_le (by first | assumption | (simp; done) | (simp; omega)) hb.size); (try have hz1 : w.heap.size + 1 < w'.heap.size := Nat.lt_of_lt_of_le (by first | assumption | (simp; done) | (simp; omega)) hb.size); (try have hz2 : w.heap.size + 1 + 1 < w'.heap.size := Nat.lt_of_lt_of_le (by first | assumption | (simp; done) | (simp; omega)) hb.size); have hz := hb.size; (try simp at hz)))
    have HBL : Hid (Below (w.heap.size + 1) (w.alloc (.cells #[.int .i64 ag, .int .i64 xf, .slice (some ⟨b, off, none⟩) l.length cap] 24)) w') := Lib.hid (hb.mono (by simp))
    clear hb hc hf
    go_loopw [3, 4] (fun q i wr => ∃ j : Nat, j ≤ l.length ∧ i = .int .i64 j ∧ q = .int .i64 (Wh.run l j) ∧ Below (w.heap.size + 1) (w.alloc (.cells #[.int .i64 ag, .int .i64 xf, .slice (some ⟨b, off, none⟩) l.length cap] 24)) wr) (fun _ i _ => l.length - (intOf i).toNat)
    case atStart => exact ⟨0, Nat.zero_le _, rfl, by rw [HZ.out], HBL.out⟩
    case round =>
      obtain ⟨j, hj, rfl, rfl, hR⟩ := hrel
      have hx2 : wr.cell? ⟨w.heap.size, 2, none⟩ = some (.slice (some ⟨b, off, none⟩) l.length cap) := (hR.cell (p := ⟨w.heap.size, 2, none⟩) (Nat.lt_succ_self _)).trans (by simp [go_sem])
      have hsz : w.heap.size < wr.heap.size := by have := hR.size; simp at this; omega
      have hAr := HA.out.below (lowBox hR)
      have hbl := hAr.lt
      have HR := Lib.hid hR
      clear hR
      by_cases hlt : j < l.length
      · have c1 := hAr.ct j hlt
        have b1 := HN.out j hlt
        have b2 := HB.out j (by omega)
        have HE := Lib.hid (HS.out j)
        clear hAr HB HS HZ HN
        generalize Wh.run l j = q at *
        generalize At l j = a at *
        obtain ⟨s, c⟩ := a
        dsimp only at *
        go_wp2
        go_roundw
        case rel => exact ⟨j + 1, by omega, by go_num, congrArg (Value.int .i64) (by rw [HE.out]), HR.out⟩
        case measure => simp [intOf]; omega
      · obtain rfl : j = l.length := by omega
        clear hAr HB HS HZ HN
        go_wp2
        go_ret
        exact ⟨by rw [HQ.out]; rfl, lowBox HR.out⟩

end Go.Proofs.YtbhfapbhlkgmfaaDoor

namespace Go.Proofs.YtbhfapbhlkgmfaaDoor
open Go.RowKit Go.Sort
open Fx (Vl)
open Me

theorem infoVal : (Tryd.prog.info? 47).map (fun i => (i.zero, i.size, i.bytes)) = some (some (.agg #[.bool false, .int .i64 0]), 2, 16) := by kernel_rfl

def cellsOf (l : List Vl) : List Value := l.flatMap fun v => [.bool v.ok, .int .i64 v.n]
theorem cellsOf_length (l : List Vl) : (cellsOf l).length = l.length * 2 := by
  induction l with
  | nil => rfl
  | cons v l ih => simp only [cellsOf, List.flatMap_cons, List.length_append, List.length_cons, List.length_nil] at *; omega
theorem cellsOf_even (l : List Vl) : ∀ i (h : i < l.length), (cellsOf l)[i * 2]? = some (.bool l[i].ok) := by
  induction l with
  | nil => intro i h; cases h
  | cons v l ih =>
    intro i h
    cases i with
    | zero => rfl
    | succ i =>
      have := ih i (by simpa using h)
      have e : (i + 1) * 2 = i * 2 + 1 + 1 := by omega
      rw [e]
      show (cellsOf l)[i * 2]? = _
      exact this
theorem cellsOf_odd (l : List Vl) : ∀ i (h : i < l.length), (cellsOf l)[i * 2 + 1]? = some (.int .i64 l[i].n) := by
  induction l with
  | nil => intro i h; cases h
  | cons v l ih =>
    intro i h
    cases i with
    | zero => rfl
    | succ i =>
      have := ih i (by simpa using h)
      have e : (i + 1) * 2 + 1 = i * 2 + 1 + 1 + 1 := by omega
      rw [e]
      show (cellsOf l)[i * 2 + 1]? = _
      exact this
theorem cellsOf_one (l : List Vl) : ∀ u ∈ cellsOf l, u.oneCell' = true := by
  intro u hu
  simp only [cellsOf, List.mem_flatMap] at hu
  obtain ⟨v, _, hv⟩ := hu
  simp at hv
  rcases hv with rfl | rfl <;> rfl
theorem cellsOf_at {w : World} {b off : Nat} {l : List Vl} (hv : Vals w b off l) : ∀ j u, (cellsOf l)[j]? = some u → w.cell? ((⟨b, off, none⟩ : Addr).add j) = some u := by
  intro j u hj
  have hlt : j < l.length * 2 := by
    have := (List.getElem?_eq_some_iff.1 hj).1
    rwa [cellsOf_length] at this
  rw [show (⟨b, off, none⟩ : Addr).add j = ⟨b, off + j, none⟩ by simp [Addr.add]]
  by_cases h2 : j % 2 = 0
  · have e : j = j / 2 * 2 := by omega
    have h := cellsOf_even l (j / 2) (by omega)
    rw [← e, hj] at h
    rw [e, hv.ok (j / 2) (by omega), h]
  · have e : j = j / 2 * 2 + 1 := by omega
    have h := cellsOf_odd l (j / 2) (by omega)
    rw [← e, hj] at h
    rw [e, ← Nat.add_assoc, hv.n (j / 2) (by omega), h]


theorem cellsOf_append (l m : List Vl) : cellsOf (l ++ m) = cellsOf l ++ cellsOf m := by simp [cellsOf]
theorem cellsOf_single (v : Vl) : cellsOf [v] = [.bool v.ok, .int .i64 v.n] := rfl

/-- A slice of Vals, nil and empty ones too, as a list. -/
def Sl (w : World) (v : Value) (l : List Vl) : Prop := (l = [] ∧ ∃ x cap, v = .slice x 0 cap) ∨ (0 < l.length ∧ ∃ b off cap, v = .slice (some ⟨b, off, none⟩) l.length cap ∧ Vals w b off l)
theorem Sl.below {w w' : World} {v : Value} {l : List Vl} (h : Sl w v l) (hb : Below w.heap.size w w') : Sl w' v l := by
  rcases h with h | ⟨h0, b, off, cap, e, hv⟩
  · exact .inl h
  · exact .inr ⟨h0, b, off, cap, e, hv.below hb⟩
theorem Sl.form {w : World} {v : Value} {l : List Vl} (h : Sl w v l) : ∃ A c, v = .slice A l.length c := by
  rcases h with ⟨rfl, x, cap, rfl⟩ | ⟨_, b, off, cap, rfl, _⟩
  · exact ⟨_, _, rfl⟩
  · exact ⟨_, _, rfl⟩
theorem Sl.nil (w : World) (x : Option Addr) (cap : Nat) : Sl w (.slice x 0 cap) [] := .inl ⟨rfl, x, cap, rfl⟩
theorem Sl.some {w : World} {b off cap : Nat} {l : List Vl} (h0 : 0 < l.length) (h : Vals w b off l) : Sl w (.slice (some ⟨b, off, none⟩) l.length cap) l := .inr ⟨h0, b, off, cap, rfl, h⟩

/-- A row of Vals of the call's own. -/
def OwnV (base : Nat) (w : World) (v : Value) (l : List Vl) : Prop := w.ownsRow base 47 2 v l.length (cellsOf l)
theorem OwnV.lt {base : Nat} {w : World} {v : Value} {l : List Vl} (h : OwnV base w v l) : ∀ g, v.ownBlock = some g → base ≤ g ∧ g < w.heap.size := by
  intro g hg
  rcases h.2 with ⟨rfl, _⟩ | ⟨g', cap, cur, rfl, hb, hh, _⟩
  · cases hg
  · have : g' = g := by simpa [Value.ownBlock] using hg
    subst this
    exact ⟨hb, (Array.getElem?_eq_some_iff.1 hh).1⟩
theorem OwnV.nil (a : Nat) (w : World) : OwnV a w (.slice none 0 0) [] := ⟨rfl, .inl ⟨rfl, rfl⟩⟩
theorem OwnV.below {a : Nat} {w w' : World} {v : Value} {l : List Vl} (h : OwnV a w v l) (k : Below w.heap.size w w') : OwnV a w' v l :=
  owns_keep h fun g hg => k.block g (h.lt g hg).2
theorem OwnV.slice {a : Nat} {w : World} {v : Value} {l : List Vl} (h : OwnV a w v l) : ∃ A c, v = .slice A l.length c := by
  rcases h.2 with ⟨rfl, h0⟩ | ⟨g', cap, cur, rfl, _⟩
  · exact ⟨none, 0, by rw [h0]⟩
  · exact ⟨_, _, rfl⟩
theorem OwnV.more {base : Nat} {w : World} {v : Value} {l : List Vl} {ok : Bool} {n : Int} (h : w.ownsRow base 47 2 v (l.length + 1) (cellsOf l ++ [.bool ok, .int .i64 n])) : OwnV base w v (l ++ [⟨ok, n⟩]) := by
  unfold OwnV
  rw [List.length_append, cellsOf_append, cellsOf_single]
  exact h
theorem OwnV.sl {base : Nat} {w : World} {v : Value} {l : List Vl} (h : OwnV base w v l) : Sl w v l := by
  obtain ⟨hlen, ⟨rfl, h0⟩ | ⟨g, cap, cur, rfl, hb, hg, hle, hm, hs, hx⟩⟩ := h
  · exact .inl ⟨List.eq_nil_of_length_eq_zero h0, none, 0, rfl⟩
  · by_cases h0 : l.length = 0
    · have e := List.eq_nil_of_length_eq_zero h0
      subst e
      exact .inl ⟨rfl, _, _, rfl⟩
    · refine .inr ⟨by omega, g, 0, cap, rfl, (Array.getElem?_eq_some_iff.1 hg).1, ?_, ?_⟩
      · intro i hi
        rw [Nat.zero_add, ← cellsOf_even l i hi, ← hx, List.getElem?_take, if_pos (by rw [cellsOf_length] at hlen; omega)]
        simp [World.cell?, hg]
      · intro i hi
        rw [Nat.zero_add, ← cellsOf_odd l i hi, ← hx, List.getElem?_take, if_pos (by rw [cellsOf_length] at hlen; omega)]
        simp [World.cell?, hg]

/-- What a slice of Vals reads as, for an append. -/
theorem Sl.rd {w : World} {A : Option Addr} {n c : Nat} {l : List Vl} (h : Sl w (.slice A n c) l) : n = l.length ∧ Rd w (fun _ => True) A (cellsOf l) := by
  rcases h with ⟨rfl, x, cap, e⟩ | ⟨h0, b, off, cap, e, hv⟩
  · injection e with e1 e2 e3
    exact ⟨e2, fun hne => absurd rfl hne⟩
  · injection e with e1 e2 e3
    subst e1 e2 e3
    exact ⟨rfl, fun _ => ⟨_, rfl, hv.lt, trivial, cellsOf_at hv⟩⟩

theorem adN (b off j : Nat) : (⟨b, off, none⟩ : Addr).add j = ⟨b, off + j, none⟩ := by simp [Addr.add]

/-- Every row of Vals that comes in. -/
theorem sl_in (x : Option Addr) (len cap : Nat) (w : World) (hx : (x = none ∧ len = 0 ∧ cap = 0) ∨ (∃ a : Addr, x = some a ∧ ∀ i, i < len → ∃ (ok : Bool) (n : Int), w.cell? (a.add (i * 2)) = some (.bool ok) ∧ w.cell? (a.add (i * 2 + 1)) = some (.int .i64 n))) :
    ∃ l : List Vl, l.length = len ∧ Sl w (.slice x len cap) l := by
  rcases hx with ⟨rfl, rfl, rfl⟩ | ⟨a, rfl, hc⟩
  · exact ⟨[], rfl, Sl.nil _ _ _⟩
  · by_cases h0 : len = 0
    · subst h0; exact ⟨[], rfl, Sl.nil _ _ _⟩
    · obtain ⟨b, off, spot⟩ := a
      obtain ⟨ok0, n0, hk0, _⟩ := hc 0 (by omega)
      have hspot : spot = none := by simpa [Addr.add] using World.cell?_spot hk0
      subst hspot
      obtain ⟨l, hlen, hl2⟩ : ∃ l : List Vl, l.length = len ∧ ∀ i (h : i < l.length), w.cell? ⟨b, off + i * 2, none⟩ = some (.bool l[i].ok) ∧ w.cell? ⟨b, off + i * 2 + 1, none⟩ = some (.int .i64 l[i].n) := by
        have key : ∀ m, m ≤ len → ∃ l : List Vl, l.length = m ∧ ∀ i (h : i < l.length), w.cell? ⟨b, off + i * 2, none⟩ = some (.bool l[i].ok) ∧ w.cell? ⟨b, off + i * 2 + 1, none⟩ = some (.int .i64 l[i].n) := by
          intro m
          induction m with
          | zero => intro _; exact ⟨[], rfl, fun i h => by cases h⟩
          | succ m ih =>
            intro hm
            obtain ⟨l, e, hi⟩ := ih (by omega)
            obtain ⟨ok, n, c0, c1⟩ := hc m (by omega)
            refine ⟨l ++ [⟨ok, n⟩], by simp [e], fun i h => ?_⟩
            by_cases him : i < l.length
            · rw [List.getElem_append_left him]; exact hi i him
            · have him2 : i = l.length := by simp at h; omega
              subst him2
              rw [List.getElem_append_right (Nat.le_refl _)]
              rw [adN] at c0 c1
              simp only [e, Nat.sub_self, List.getElem_cons_zero]
              exact ⟨c0, by rw [Nat.add_assoc]; exact c1⟩
        exact key len (Nat.le_refl _)
      refine ⟨l, hlen, ?_⟩
      subst hlen
      exact Sl.some (by omega) ⟨World.block_lt_of_cell? w _ (hl2 0 (by omega)).1, fun i h => (hl2 i h).1, fun i h => (hl2 i h).2⟩
end Go.Proofs.YtbhfapbhlkgmfaaDoor

namespace Go.Proofs.YtbhfapbhlkgmfaaDoor
open Go.RowKit Go.Sort
open Fx (Vl)
open Me
namespace Wp

/-- The document's file of a file system: at block x; the system's object at fs; the header's archives at A. -/
structure FileR (w : World) (x fs : Nat) (n : List UInt8) (h : Hd) (A : Option Addr) (cap : Nat) : Prop where
  row : RowAt w x 26 #[.pointer (some ⟨fs, 0, none⟩), .string ⟨n.toArray⟩, .int .i64 h.ag, .int .i64 h.xf, .slice A h.l.length cap]
  ars : Row w A h.l cap
theorem FileR.below {w w' : World} {x fs : Nat} {n : List UInt8} {h : Hd} {A : Option Addr} {cap : Nat} (f : FileR w x fs n h A cap) (b : Below w.heap.size w w') : FileR w' x fs n h A cap :=
  ⟨f.row.below b f.row.lt, f.ars.below b⟩
theorem FileR.keep {w w' : World} {V : Nat → Prop} {x fs : Nat} {n : List UInt8} {h : Hd} {A : Option Addr} {cap : Nat} (f : FileR w x fs n h A cap) (k : Kp (fun b => ¬ V b) w w') (hx : V x) (hA : ∀ a, A = some a → V a.block) : FileR w' x fs n h A cap := by
  refine ⟨(k.block x f.row.lt (fun o => o hx)).trans f.row, f.ars.1, fun h0 => ?_⟩
  obtain ⟨b, off, e, ha⟩ := f.ars.2 h0
  have hb : V b := hA _ e
  exact ⟨b, off, e, Nat.lt_of_lt_of_le ha.lt k.size, fun i hi => (k.cell (p := ⟨b, off + i * 2, none⟩) ha.lt (fun o => o hb)).trans (ha.st i hi), fun i hi => (k.cell (p := ⟨b, off + i * 2 + 1, none⟩) ha.lt (fun o => o hb)).trans (ha.ct i hi)⟩
/-- A header that may be: each archive's numbers. -/
theorem Hd.nums {h : Hd} (hv : h.val = true) : ∀ i, i < h.l.length → (1 ≤ h.step i ∧ h.step i ≤ 16777216) ∧ (1 ≤ h.cnt i ∧ h.cnt i ≤ 16777216) := by
  obtain ⟨_, _, _, ha⟩ := Wh.val_t hv
  obtain ⟨a1, a2, a3, a4, a5⟩ := Wh.av_t ha
  exact fun i hi => Wh.alls_num hi a3
theorem Hd.len {h : Hd} (hv : h.val = true) : 1 ≤ h.l.length ∧ h.l.length ≤ 8 := by
  obtain ⟨_, _, _, ha⟩ := Wh.val_t hv
  obtain ⟨a1, a2, a3, a4, a5⟩ := Wh.av_t ha
  exact ⟨a1, a2⟩
theorem Hd.offs_bd {h : Hd} (hv : h.val = true) (i : Int) : 0 ≤ h.offs i ∧ h.offs i ≤ 2000000000 := by
  obtain ⟨_, _, _, ha⟩ := Wh.val_t hv
  obtain ⟨a1, a2, a3, a4, a5⟩ := Wh.av_t ha
  unfold Hd.offs Wh.offs
  split
  · rename_i hh
    have := Wh.ends_bd a2 (Wh.alls_cnt a3) i.toNat (by omega)
    omega
  · omega
theorem pl_bd {s c t : Int} (hc : 1 ≤ c ∧ c ≤ 16777216) : 0 ≤ Sl.pl s c t ∧ Sl.pl s c t ≤ 16777216 := by
  unfold Sl.pl
  split
  · omega
  · have h1 := Int.emod_nonneg (t / s) (by omega : c ≠ 0)
    have h2 := Int.emod_lt_of_pos (t / s) (by omega : 0 < c)
    omega
theorem at_bd {h : Hd} (hv : h.val = true) (i : Nat) (hi : i < h.l.length) (t : Int) : 0 ≤ at_ h i t ∧ at_ h i t ≤ 2300000000 := by
  have h1 := Hd.offs_bd hv (i : Int)
  have h2 := pl_bd (s := h.step i) (t := t) (Hd.nums hv i hi).2
  unfold at_
  omega
end Wp
open Wp

end Go.Proofs.YtbhfapbhlkgmfaaDoor

namespace Go.Proofs.YtbhfapbhlkgmfaaDoor
open Go.RowKit Go.Sort
open Fx (Vl)
open Me
open Wp

end Go.Proofs.YtbhfapbhlkgmfaaDoor

namespace Go.Proofs.YtbhfapbhlkgmfaaDoor
open Go.RowKit Go.Sort
open Fx (Vl)
open Me
open Wp

/-- One row in a slice of rows. -/
theorem ps_one {base g : Nat} {w : World} {v : Value} {L : List UInt8} (h : BsT base w v L) (hg : RowAt w g 65 #[v]) : Vf.Ps w (fun _ => True) (.slice (some ⟨g, 0, none⟩) 1 1) [L] := by
  obtain ⟨A, c, e, h1, h2, hr⟩ := h
  refine ⟨some ⟨g, 0, none⟩, 1, [v], rfl, Nat.le_refl _, by unfold maxLen; omega, fun _ => ⟨_, rfl, hg.lt, trivial, fun j u hu => ?_⟩, ⟨[v], [], rfl, ⟨v, rfl, A, c, e, h1, h2, hr.mono fun _ _ _ => trivial⟩, rfl⟩⟩
  rw [Addr.add_lit, Nat.zero_add, hg.cell]
  simpa using hu
/-- The call's own rows stay where blocks behind base do. -/
theorem BsT.keep {base : Nat} {V : Nat → Prop} {w w' : World} {v : Value} {L : List UInt8} (h : BsT base w v L) (k : Kp (fun b => ¬ V b) w w') (hV : ∀ i, base ≤ i → i < w.heap.size → V i) : BsT base w' v L := by
  obtain ⟨A, c, e, h1, h2, hr⟩ := h
  exact ⟨A, c, e, h1, h2, hr.keep k.size fun i hi hb => k.block i hi (fun o => o (hV i hb hi))⟩
theorem kp_via {O : Nat → Prop} {a b c : World} (k : Kp O b c) (h : Below a.heap.size a b) : Kp O a c := (Kp.of_below h).trans k (fun _ _ h => h)
theorem Wp.one_flat (L : List UInt8) : [L].flatten = L := by simp

/-- What a slot's write leaves. -/
def Wp.Wrote (w : World) (V : Nat → Prop) (fs c : Nat) (S : Vf.Sv) (e : Ending) (w' : World) : Prop := e = .returned (.tuple #[]) ∧ RO w' V fs c S ∧ Kp (fun b => ¬ V b) w w'

end Go.Proofs.YtbhfapbhlkgmfaaDoor

namespace Go.Proofs.YtbhfapbhlkgmfaaDoor
open Go.RowKit Go.Sort
open Fx (Vl)
open Me

/-- What Known hands back. -/
def Knew (w : World) (m : List Vl) (e : Ending) (w' : World) : Prop := ∃ v, e = .returned v ∧ OwnV w.heap.size w' v m ∧ Below w.heap.size w w'

/-- One more of them. -/
theorem own_append {w W w2 : World} {v v2 : Value} {m : List Vl} {eo : Bool} {en : Int} (hb : Below w.heap.size w W) (ho : OwnV w.heap.size W v m)
    (hown : w2.ownsRow w.heap.size 47 2 v2 (m.length + 1) (cellsOf m ++ [.bool eo, .int .i64 en])) (hg : W.grownBy w2 v.ownBlock) : OwnV w.heap.size w2 v2 (m ++ [⟨eo, en⟩]) ∧ Below w.heap.size w w2 :=
  ⟨OwnV.more hown, hb.grown hg hb.size fun g e => (ho.lt g e).1⟩

set_option maxHeartbeats 2000000 in
theorem known_some (l : List Vl) (hl : l.length ≤ 1000000) (b off cap : Nat) (w : World) (hv : Vals w b off l) :
    Calls Tryd.prog 83 #[.slice (some ⟨b, off, none⟩) l.length cap] w (Knew w (Ag.kn l)) := by
  obtain ⟨i0, hi, hz0, hz1, hz2⟩ := info_parts infoVal
  obtain ⟨C, CS, hmk, hcs, hC⟩ : ∃ (C : Nat) (CS : Array Value), (∀ W : World, (Instr.makeSlice 41 (.int .i64 0) (.int .i64 (l.length : Int))).run Tryd.prog W = .ok (.slice (some ⟨W.heap.size, 0, none⟩) 0 C) (W.alloc (.cells CS 47))) ∧ CS.size = C * 2 ∧ C ≤ 1000000 := by
    refine ⟨(l.length : Int).toNat, madeCells #[.bool false, .int .i64 0] ((l.length : Int).toNat * 2), fun W => ?_, size_madeCells _ _, by omega⟩
    have h := run_make (P := Tryd.prog) W 41 47 i0 _ Tryd.underlying41 hi hz0 .i64 .i64 0 (l.length : Int) (by omega) (by omega) (by rw [hz2]; omega) (by omega)
    rw [hz1] at h
    exact h
  have HI := Lib.hid hi
  have HZ := Lib.hid (And.intro hz0 (And.intro hz1 hz2))
  have HO0 : Hid (∀ W : World, w.heap.size ≤ W.heap.size → OwnV w.heap.size (W.alloc (.cells CS 47)) (.slice (some ⟨W.heap.size, 0, none⟩) 0 C) []) := Lib.hid fun W h => World.ownsRow_made W CS C h (by unfold maxLen; omega) hcs
  clear hi hz0 hz1 hz2
  go_enter Tryd.func83, Tryd.ntmps83
  go_wp2_with fail
  go_loopw [3, 11] (fun v i wr => ∃ k : Nat, k ≤ l.length ∧ i = .int .i64 k ∧ OwnV w.heap.size wr v (Ag.kn (l.take k)) ∧ Below w.heap.size w wr) (fun _ i _ => l.length - (intOf i).toNat)
  case atStart => exact ⟨0, Nat.zero_le _, rfl, HO0.out w (Nat.le_refl _), (Below.refl _ _).alloc (Nat.le_refl _) _⟩
  case round =>
    obtain ⟨k, hk, rfl, hown, hbel⟩ := hrel
    obtain ⟨A, c, rfl⟩ := hown.slice
    by_cases hlt : k < l.length
    · have hvr := hv.below hbel
      have ec0 := hvr.ok k hlt
      have ec1 := hvr.n k hlt
      have hbr := hvr.lt
      have hkl : (k : Int) < (l.length : Int) := by omega
      have hk0 : (0 : Int) ≤ (k : Int) := by omega
      have hst := Lib.hid (Ag.kn_take l k hlt)
      have hml := Ag.kn_take_len l k
      have HB := Lib.hid hbel
      have HO := Lib.hid hown
      have hws := hbel.size
      clear hbel hown hvr
      generalize l[k] = ek at *
      generalize Ag.kn (l.take k) = m at *
      obtain ⟨eo, en⟩ := ek
      cases hq : Fx.num ⟨eo, en⟩
      · have HT : Hid (Ag.kn (l.take (k + 1)) = m) := Lib.hid (by rw [hst.out, if_neg (by rw [hq]; exact Bool.false_ne_true)])
        cases eo
        · go_wp2_with fail
          go_roundw
          case rel => exact ⟨k + 1, by omega, by go_num, by rw [HT.out]; exact HO.out.below ((Below.refl _ _).alloc (Nat.le_refl _) _), HB.out.alloc hws _⟩
          case measure => simp [intOf]; omega
        · have HIs : Hid (∀ W, Calls Tryd.prog 88 #[.agg #[.bool true, .int .i64 en]] W fun e w' => e = .returned (.bool false) ∧ Below W.heap.size W w') := Lib.hid fun W => by
            have := isV_any true en W
            rw [Fx.isV_on, show Fx.inR en = false from hq] at this
            exact this
          go_wp2_with (go_at_call 88; (((with_reducible refine (HIs.out _).mono ?_)); rintro e w1 ⟨rfl, hb1⟩; obtain ⟨hc1, hf1⟩ := bcell hb1; (try have hq1w : w.heap.size < w1.heap.size := Nat.lt_of_lt_of_le (by first | assumption | (simp; done) | (simp; omega)) hb1.size); (try have hq1wr : wr.heap.size < w1.heap.size := Nat.lt_of_lt_of_le (by first | assumption | (simp; done) | (simp; omega)) hb1.size); have hs1 := hb1.size; (try simp at hs1)))
          have HB1 : Hid (Below wr.heap.size wr w1) := Lib.hid (by repeat (first | exact Below.refl _ _ | assumption | refine Below.setCell ?_ (by first | (simp; done) | omega | (simp; omega) | (simp at *; omega)) _ | refine Below.alloc ?_ (by first | (simp; done) | omega | (simp; omega) | (simp at *; omega)) _ | refine Below.drew ?_ | (refine Below.trans ?_ (Below.mono (by assumption) (by first | (simp; done) | omega | (simp; omega) | (simp at *; omega)))) | (refine Below.trans ?_ (Below.mono (below_regrown _ _ _) (by first | (simp; done) | omega | (simp; omega) | (simp at *; omega))))))
          go_roundw
          case rel => exact ⟨k + 1, by omega, by go_num, by rw [HT.out]; exact HO.out.below HB1.out, HB.out.trans (HB1.out.mono hws)⟩
          case measure => simp [intOf]; omega
      · obtain ⟨rfl, _, _⟩ := Fx.num_iff.1 hq
        have HT : Hid (Ag.kn (l.take (k + 1)) = m ++ [⟨true, en⟩]) := Lib.hid (by rw [hst.out, if_pos hq])
        have HIs : Hid (∀ W, Calls Tryd.prog 88 #[.agg #[.bool true, .int .i64 en]] W fun e w' => e = .returned (.bool true) ∧ Below W.heap.size W w') := Lib.hid fun W => by
            have := isV_any true en W
            rw [Fx.isV_on, show Fx.inR en = true from hq] at this
            exact this
        go_wp2_with first
          | (go_at_call 88; (((with_reducible refine (HIs.out _).mono ?_)); rintro e w1 ⟨rfl, hb1⟩; obtain ⟨hc1, hf1⟩ := bcell hb1; (try have hq1w : w.heap.size < w1.heap.size := Nat.lt_of_lt_of_le (by first | assumption | (simp; done) | (simp; omega)) hb1.size); (try have hq1wr : wr.heap.size < w1.heap.size := Nat.lt_of_lt_of_le (by first | assumption | (simp; done) | (simp; omega)) hb1.size); have hs1 := hb1.size; (try simp at hs1)))
          | (at_builtin; refine wpList_app _ rfl (.tmp 21) (.tmp 23) 41 rfl w.heap.size 47 i0 (.agg #[.bool false, .int .i64 0]) 2 16 Tryd.underlying41 HI.out HZ.out.1 HZ.out.2.1 HZ.out.2.2 rfl (by decide) (.slice A m.length c) m.length (cellsOf m) rfl (HO.out.below (by repeat (first | exact Below.refl _ _ | assumption | refine Below.setCell ?_ (by first | (simp; done) | omega | (simp; omega) | (simp at *; omega)) _ | refine Below.alloc ?_ (by first | (simp; done) | omega | (simp; omega) | (simp at *; omega)) _ | refine Below.drew ?_ | (refine Below.trans ?_ (Below.mono (by assumption) (by first | (simp; done) | omega | (simp; omega) | (simp at *; omega)))) | (refine Below.trans ?_ (Below.mono (below_regrown _ _ _) (by first | (simp; done) | omega | (simp; omega) | (simp at *; omega))))))) (fun b => b = w1.heap.size) (some ⟨w1.heap.size, 0, none⟩) 1 1 [.bool true, .int .i64 en] rfl rfl (Rd.fresh _ _ _ _ rfl) (by intro u hu; simp at hu; rcases hu with rfl | rfl <;> rfl) (by unfold maxLen; omega) (by omega) (by simp; omega) ?_; intro v2 w2 hown2 hg2 hat2 hnil2)
        have HB1 : Hid (Below wr.heap.size wr (w1.alloc (.cells #[.bool true, .int .i64 en] 47))) := Lib.hid (by repeat (first | exact Below.refl _ _ | assumption | refine Below.setCell ?_ (by first | (simp; done) | omega | (simp; omega) | (simp at *; omega)) _ | refine Below.alloc ?_ (by first | (simp; done) | omega | (simp; omega) | (simp at *; omega)) _ | refine Below.drew ?_ | (refine Below.trans ?_ (Below.mono (by assumption) (by first | (simp; done) | omega | (simp; omega) | (simp at *; omega)))) | (refine Below.trans ?_ (Below.mono (below_regrown _ _ _) (by first | (simp; done) | omega | (simp; omega) | (simp at *; omega))))))
        have HN := Lib.hid (own_append (HB.out.trans (HB1.out.mono hws)) (HO.out.below HB1.out) hown2 hg2)
        obtain ⟨A2, n2, c2, rfl⟩ := own_slice hown2
        clear hown2 hg2 hat2 hnil2
        go_wp2_with fail
        go_roundw
        case rel => exact ⟨k + 1, by omega, by go_num, by rw [HT.out]; exact HN.out.1, HN.out.2⟩
        case measure => simp [intOf]; omega
    · obtain rfl : k = l.length := by omega
      have HO := Lib.hid hown
      have HB := Lib.hid hbel
      rw [List.take_length] at *
      clear hown hbel
      go_wp2
      go_ret
      exact ⟨_, rfl, HO.out, HB.out⟩

set_option maxHeartbeats 2000000 in
theorem known_zero (x : Option Addr) (cap : Nat) (w : World) :
    Calls Tryd.prog 83 #[.slice x 0 cap] w (Knew w []) := by
  obtain ⟨i0, hi, hz0, hz1, hz2⟩ := info_parts infoVal
  obtain ⟨CS, hmk, hcs⟩ : ∃ (CS : Array Value), (∀ W : World, (Instr.makeSlice 41 (.int .i64 0) (.int .i64 0)).run Tryd.prog W = .ok (.slice (some ⟨W.heap.size, 0, none⟩) 0 0) (W.alloc (.cells CS 47))) ∧ CS.size = 0 * 2 := by
    refine ⟨madeCells #[.bool false, .int .i64 0] ((0 : Int).toNat * 2), fun W => ?_, size_madeCells _ _⟩
    have h := run_make (P := Tryd.prog) W 41 47 i0 _ Tryd.underlying41 hi hz0 .i64 .i64 0 0 (by omega) (by omega) (by omega) (by omega)
    rw [hz1] at h
    exact h
  have HO0 : Hid (∀ W : World, w.heap.size ≤ W.heap.size → OwnV w.heap.size (W.alloc (.cells CS 47)) (.slice (some ⟨W.heap.size, 0, none⟩) 0 0) []) := Lib.hid fun W h => World.ownsRow_made W CS 0 h (by unfold maxLen; omega) hcs
  clear hi hz0 hz1 hz2
  go_enter Tryd.func83, Tryd.ntmps83
  go_wp2_with fail
  go_loopw [3, 11] (fun v i wr => i = .int .i64 0 ∧ OwnV w.heap.size wr v [] ∧ Below w.heap.size w wr) (fun _ i _ => 0)
  case atStart => exact ⟨rfl, HO0.out w (Nat.le_refl _), (Below.refl _ _).alloc (Nat.le_refl _) _⟩
  case round =>
    obtain ⟨rfl, hown, hbel⟩ := hrel
    obtain ⟨A, c, rfl⟩ := hown.slice
    have HO := Lib.hid hown
    have HB := Lib.hid hbel
    clear hown hbel
    go_wp2
    go_ret
    exact ⟨_, rfl, HO.out, HB.out⟩
theorem known_v (l : List Vl) (hl : l.length ≤ 1000000) (v : Value) (w : World) (hv : Sl w v l) : Calls Tryd.prog 83 #[v] w (Knew w (Ag.kn l)) := by
  rcases hv with ⟨rfl, x, cap, rfl⟩ | ⟨h0, b, off, cap, rfl, hv⟩
  · exact known_zero x cap w
  · exact known_some l hl b off cap w hv

end Go.Proofs.YtbhfapbhlkgmfaaDoor

namespace Go.Proofs.YtbhfapbhlkgmfaaDoor

set_option maxHeartbeats 4000000 in
set_option maxRecDepth 100000 in
theorem len64_any (x : Int) (h0 : 0 ≤ x) (h1 : x ≤ 18446744073709551615) (w : World) :
    Calls Tryd.prog 106 #[.int .u64 x] w fun e w' => e = .returned (.int .i64 (Lib.bitLen x.toNat)) ∧ w = w' := by
  go_enter Tryd.func106, Tryd.ntmps106
  go_wp2
  all_goals (go_ret; refine ⟨congrArg Ending.returned (congrArg (Value.int IntKind.i64) ?_), rfl⟩)
  all_goals first
    | (rw [Lib.len8_of (x / 4294967296 / 65536 / 256 % 256) (by omega) (by omega)]
       have e : (x / 4294967296 / 65536 / 256 % 256).toNat = x.toNat / 72057594037927936 := by omega
       have l := Lib.bitLen_le8' (x / 4294967296 / 65536 / 256 % 256) (by omega) (by omega)
       have s := Lib.bitLen_shift56 x.toNat (by omega) (by omega)
       rw [e] at l ⊢
       omega)
    | (rw [Lib.len8_of (x / 4294967296 / 65536 % 256) (by omega) (by omega)]
       have e : (x / 4294967296 / 65536 % 256).toNat = x.toNat / 281474976710656 := by omega
       have l := Lib.bitLen_le8' (x / 4294967296 / 65536 % 256) (by omega) (by omega)
       have s := Lib.bitLen_shift48 x.toNat (by omega) (by omega)
       rw [e] at l ⊢
       omega)
    | (rw [Lib.len8_of (x / 4294967296 / 256 % 256) (by omega) (by omega)]
       have e : (x / 4294967296 / 256 % 256).toNat = x.toNat / 1099511627776 := by omega
       have l := Lib.bitLen_le8' (x / 4294967296 / 256 % 256) (by omega) (by omega)
       have s := Lib.bitLen_shift40 x.toNat (by omega) (by omega)
       rw [e] at l ⊢
       omega)
    | (rw [Lib.len8_of (x / 4294967296 % 256) (by omega) (by omega)]
       have e : (x / 4294967296 % 256).toNat = x.toNat / 4294967296 := by omega
       have l := Lib.bitLen_le8' (x / 4294967296 % 256) (by omega) (by omega)
       have s := Lib.bitLen_shift32 x.toNat (by omega) (by omega)
       rw [e] at l ⊢
       omega)
    | (rw [Lib.len8_of (x / 65536 / 256 % 256) (by omega) (by omega)]
       have e : (x / 65536 / 256 % 256).toNat = x.toNat / 16777216 := by omega
       have l := Lib.bitLen_le8' (x / 65536 / 256 % 256) (by omega) (by omega)
       have s := Lib.bitLen_shift24 x.toNat (by omega) (by omega)
       rw [e] at l ⊢
       omega)
    | (rw [Lib.len8_of (x / 65536 % 256) (by omega) (by omega)]
       have e : (x / 65536 % 256).toNat = x.toNat / 65536 := by omega
       have l := Lib.bitLen_le8' (x / 65536 % 256) (by omega) (by omega)
       have s := Lib.bitLen_shift16 x.toNat (by omega) (by omega)
       rw [e] at l ⊢
       omega)
    | (rw [Lib.len8_of (x / 256 % 256) (by omega) (by omega)]
       have e : (x / 256 % 256).toNat = x.toNat / 256 := by omega
       have l := Lib.bitLen_le8' (x / 256 % 256) (by omega) (by omega)
       have s := Lib.bitLen_shift8 x.toNat (by omega) (by omega)
       rw [e] at l ⊢
       omega)
    | (rw [Lib.len8_of (x % 256) (by omega) (by omega)]
       have e : (x % 256).toNat = x.toNat := by omega
       have l := Lib.bitLen_le8' (x % 256) (by omega) (by omega)
       rw [e] at l ⊢
       omega)

end Go.Proofs.YtbhfapbhlkgmfaaDoor

namespace Go.Proofs.YtbhfapbhlkgmfaaDoor
open Go.RowKit

theorem ret_int {k : IntKind} {a b : Int} (h : a = b) : Ending.returned (.int k a) = .returned (.int k b) := by rw [h]

set_option maxHeartbeats 400000 in
theorem magnitude_any (n : Int) (h1 : -9223372036854775808 ≤ n) (h2 : n ≤ 9223372036854775807) (w : World) :
    Calls Tryd.prog 102 #[.int .i64 n] w fun e w' => e = .returned (.int .u64 (Fx.mag n : Int)) ∧ w = w' := by
  by_cases h : n < 0
  · go_enter Tryd.func102, Tryd.ntmps102
    go_wp2
    go_ret
    exact ⟨ret_int (by rw [IntKind.wrap_u64, IntKind.wrap_u64]; unfold Fx.mag; omega), rfl⟩
  · go_enter Tryd.func102, Tryd.ntmps102
    go_wp2
    go_ret
    exact ⟨ret_int (by unfold Fx.mag; omega), rfl⟩

theorem maskN (a : Nat) (ha : a < 18446744073709551616) : bits .and .u64 (a : Int) 4294967295 = ((a % 4294967296 : Nat) : Int) := by
  have h := bits_and_u64_nat a 4294967295 ha (by omega)
  have e : a &&& 4294967295 = a % 4294967296 := Nat.and_two_pow_sub_one_eq_mod a 32
  rw [e] at h
  exact h
theorem divN (a : Nat) : (a : Int) / 4294967296 = ((a / 4294967296 : Nat) : Int) := by omega
theorem mulN (a b : Nat) : (a : Int) * (b : Int) = ((a * b : Nat) : Int) := (Int.natCast_mul a b).symm
theorem addN (a b : Nat) : (a : Int) + (b : Int) = ((a + b : Nat) : Int) := (Int.natCast_add a b).symm
theorem wrapN (a : Nat) (ha : a < 18446744073709551616) : IntKind.u64.wrap (a : Int) = (a : Int) := by rw [IntKind.wrap_u64]; omega
theorem wrapM (a : Nat) : IntKind.u64.wrap (a : Int) = ((a % 18446744073709551616 : Nat) : Int) := by rw [IntKind.wrap_u64]; omega

set_option maxHeartbeats 1000000 in
theorem mul64_any (x y : Nat) (hx : x < 18446744073709551616) (hy : y < 18446744073709551616) (w : World) :
    Calls Tryd.prog 101 #[.int .u64 x, .int .u64 y] w fun e w' => e = .returned (.tuple #[.int .u64 ((x * y / 18446744073709551616 : Nat) : Int), .int .u64 ((x * y % 18446744073709551616 : Nat) : Int)]) ∧ w = w' := by
  obtain ⟨bd, bt, bw, hhi⟩ := Lib.mul64_hi x y hx hy
  have ba := Lib.half_mul_le (a := x / 4294967296) (b := y / 4294967296) (by omega) (by omega)
  have bb := Lib.half_mul_le (a := x / 4294967296) (b := y % 4294967296) (by omega) (by omega)
  have bc := Lib.half_mul_le (a := x % 4294967296) (b := y / 4294967296) (by omega) (by omega)
  have ba' : x / 4294967296 * (y / 4294967296) < 18446744073709551616 := by omega
  have bb' : x / 4294967296 * (y % 4294967296) < 18446744073709551616 := by omega
  have bc' : x % 4294967296 * (y / 4294967296) < 18446744073709551616 := by omega
  have bh1 : x / 4294967296 * (y / 4294967296) + (x / 4294967296 * (y % 4294967296) + x % 4294967296 * (y % 4294967296) / 4294967296) / 4294967296 < 18446744073709551616 := by omega
  have bh : x / 4294967296 * (y / 4294967296) + (x / 4294967296 * (y % 4294967296) + x % 4294967296 * (y % 4294967296) / 4294967296) / 4294967296 + ((x / 4294967296 * (y % 4294967296) + x % 4294967296 * (y % 4294967296) / 4294967296) % 4294967296 + x % 4294967296 * (y / 4294967296)) / 4294967296 < 18446744073709551616 := by omega
  go_enter Tryd.func101, Tryd.ntmps101
  go_wp2
  simp only [maskN x hx, maskN y hy, divN, mulN, addN, wrapN _ bd, wrapN _ bb', wrapN _ bt, maskN _ bt, wrapN _ bc', wrapN _ bw, wrapN _ ba', wrapN _ bh1, wrapN _ bh, wrapM (x * y)]
  rw [hhi]
  ((try simp only [Exit.inBlock, Exit.then]); refine bodyPost_ret (results_tmp2 rfl _ _ _) rfl ?_)
  exact ⟨rfl, rfl⟩

theorem mulLit (a : Nat) : (a : Int) * 4294967296 = ((a * 4294967296 : Nat) : Int) := by omega
/-- The low word: the halves put side by side. -/
theorem or_low (k l : Nat) : (k * 4294967296 % 18446744073709551616) ||| (l % 4294967296) = (k % 4294967296) * 4294967296 + l % 4294967296 := by
  have h := Nat.two_pow_add_eq_or_of_lt (i := 32) (b := l % 4294967296) (by omega) (k % 4294967296)
  have e : k * 4294967296 % 18446744073709551616 = 2 ^ 32 * (k % 4294967296) := by omega
  rw [e, ← h]; omega
theorem mul_low (x y : Nat) : x * y % 18446744073709551616 = ((x % 4294967296 * (y / 4294967296) + (x / 4294967296 * (y % 4294967296) + x % 4294967296 * (y % 4294967296) / 4294967296) % 4294967296) % 4294967296) * 4294967296 + x % 4294967296 * (y % 4294967296) % 4294967296 := by
  have e : x * y = (x / 4294967296) * (y / 4294967296) * (4294967296 * 4294967296) + ((x / 4294967296) * (y % 4294967296) + (x % 4294967296) * (y / 4294967296)) * 4294967296 + (x % 4294967296) * (y % 4294967296) := by
    rw [← Lib.split_mul, Nat.div_add_mod' x 4294967296, Nat.div_add_mod' y 4294967296]
  rw [e]
  generalize (x / 4294967296) * (y / 4294967296) = a at *
  generalize (x / 4294967296) * (y % 4294967296) = b at *
  generalize (x % 4294967296) * (y / 4294967296) = c at *
  generalize (x % 4294967296) * (y % 4294967296) = d at *
  omega
theorem orN (a b : Nat) (ha : a < 18446744073709551616) (hb : b < 18446744073709551616) : bits .or .u64 (a : Int) (b : Int) = ((a ||| b : Nat) : Int) := bits_or_u64_nat a b ha hb

theorem bitLen_bounds (f : Nat) : ∀ x, x ≠ 0 → x < 2 ^ f → ∃ k, Lib.bitLenAux f x = k + 1 ∧ 2 ^ k ≤ x ∧ x < 2 ^ (k + 1) := by
  induction f with
  | zero => intro x h0 h; simp at h; omega
  | succ f ih =>
    intro x h0 h
    unfold Lib.bitLenAux
    rw [if_neg h0]
    by_cases h1 : x / 2 = 0
    · refine ⟨0, ?_, by omega, by omega⟩
      rw [h1]; cases f <;> simp [Lib.bitLenAux]
    · obtain ⟨k, e, a, b⟩ := ih (x / 2) h1 (by rw [Nat.pow_succ] at h; omega)
      refine ⟨k + 1, by omega, ?_, ?_⟩
      · rw [Nat.pow_succ]; omega
      · rw [Nat.pow_succ]; omega

set_option maxHeartbeats 400000 in
theorem leadingZeros_any (x : Nat) (h1 : x < 18446744073709551616) (w : World) :
    Calls Tryd.prog 105 #[.int .u64 x] w fun e w' => e = .returned (.int .i64 ((64 - Lib.bitLen x : Nat) : Int)) ∧ w = w' := by
  have hl : Lib.bitLen x ≤ 64 := Lib.bitLen_le x 64 (by omega) (by omega)
  have hc : ∀ W, Calls Tryd.prog 106 #[.int .u64 x] W fun e w' => e = .returned (.int .i64 (Lib.bitLen x)) ∧ W = w' := fun W => len64_any x (by omega) (by omega) W
  have HC := Lib.hid hc
  clear hc
  generalize Lib.bitLen x = l at *
  go_enter Tryd.func105, Tryd.ntmps105
  go_wp2_with (go_at_call 106; go_must (refine (HC.out _).mono ?_; rintro e w' ⟨rfl, rfl⟩))
  go_ret
  exact ⟨ret_int (by omega), rfl⟩
end Go.Proofs.YtbhfapbhlkgmfaaDoor

namespace Go.Proofs.YtbhfapbhlkgmfaaDoor
open Go.RowKit

namespace Ag
theorem lim_lo {n : Int} (h : n < 0) : lim n = 0 := by unfold lim; rw [if_pos h]
theorem lim_hi {n : Int} (h : 16777216 < n) : lim n = 16777216 := by unfold lim; rw [if_neg (by omega), if_pos h]
theorem lim_in {n : Int} (h1 : ¬ n < 0) (h2 : ¬ 16777216 < n) : lim n = n := by unfold lim; rw [if_neg h1, if_neg h2]
theorem prod_bd {x a : Int} (h1 : 0 ≤ x ∧ x ≤ 16777216) (h2 : 0 ≤ a ∧ a ≤ 16777216) : 0 ≤ x * a ∧ x * a ≤ 281474976710656 :=
  ⟨Int.mul_nonneg h1.1 h2.1, by have := Int.mul_le_mul h1.2 h2.2 h2.1 (by omega); omega⟩
theorem en_of (xff known all : Int) : en xff known all = (decide (0 < lim known) && decide (lim known ≤ lim all) && decide (lim xff * lim all ≤ lim known * 1000000)) := by
  unfold en; rw [Bool.decide_and, Bool.decide_and, Bool.and_assoc]
end Ag

set_option maxHeartbeats 1000000 in
theorem limited_any (n : Int) (w : World) : Calls Tryd.prog 89 #[.int .i64 n] w fun e w' => e = .returned (.int .i64 (Ag.lim n)) ∧ w = w' := by
  go_enter Tryd.func89, Tryd.ntmps89
  go_wp2
  go_ret
  exact ⟨ret_int (by unfold Ag.lim; split <;> (try split) <;> omega), rfl⟩

set_option maxHeartbeats 1000000 in
theorem enough_any (xff known all : Int) (w : World) :
    Calls Tryd.prog 84 #[.int .i64 xff, .int .i64 known, .int .i64 all] w fun e w' => e = .returned (.bool (Ag.en xff known all)) ∧ w = w' := by
  have H1 : Hid (∀ W, Calls Tryd.prog 89 #[.int .i64 xff] W fun e w' => e = .returned (.int .i64 (Ag.lim xff)) ∧ W = w') := Lib.hid fun W => limited_any _ W
  have H2 : Hid (∀ W, Calls Tryd.prog 89 #[.int .i64 known] W fun e w' => e = .returned (.int .i64 (Ag.lim known)) ∧ W = w') := Lib.hid fun W => limited_any _ W
  have H3 : Hid (∀ W, Calls Tryd.prog 89 #[.int .i64 all] W fun e w' => e = .returned (.int .i64 (Ag.lim all)) ∧ W = w') := Lib.hid fun W => limited_any _ W
  have b1 := Ag.lim_bd xff
  have b2 := Ag.lim_bd known
  have b3 := Ag.lim_bd all
  have bp := Ag.prod_bd b1 b3
  have HE := Lib.hid (Ag.en_of xff known all)
  generalize Ag.en xff known all = q at *
  generalize Ag.lim xff = x at *
  generalize Ag.lim known = k at *
  generalize Ag.lim all = a at *
  by_cases t1 : 0 < k
  · by_cases t2 : k ≤ a
    · obtain ⟨p, hp⟩ : ∃ p, x * a = p := ⟨_, rfl⟩
      rw [hp] at bp
      by_cases t3 : p ≤ k * 1000000
      · have HQ : Hid (q = true) := Lib.hid (by rw [HE.out, hp]; simp [t1, t2, t3])
        clear HE
        go_enter Tryd.func84, Tryd.ntmps84
        go_wp2_with first | (go_at_call 89; ((with_reducible refine (H1.out _).mono ?_); rintro e w' ⟨rfl, rfl⟩)) | (go_at_call 89; ((with_reducible refine (H2.out _).mono ?_); rintro e w' ⟨rfl, rfl⟩)) | (go_at_call 89; ((with_reducible refine (H3.out _).mono ?_); rintro e w' ⟨rfl, rfl⟩))
        go_ret
        exact ⟨by rw [HQ.out]; first | rfl | (simp; omega), rfl⟩
      · have HQ : Hid (q = false) := Lib.hid (by rw [HE.out, hp]; simp [t3])
        clear HE
        go_enter Tryd.func84, Tryd.ntmps84
        go_wp2_with first | (go_at_call 89; ((with_reducible refine (H1.out _).mono ?_); rintro e w' ⟨rfl, rfl⟩)) | (go_at_call 89; ((with_reducible refine (H2.out _).mono ?_); rintro e w' ⟨rfl, rfl⟩)) | (go_at_call 89; ((with_reducible refine (H3.out _).mono ?_); rintro e w' ⟨rfl, rfl⟩))
        go_ret
        exact ⟨by rw [HQ.out]; first | rfl | (simp; omega), rfl⟩
    · have HQ : Hid (q = false) := Lib.hid (by rw [HE.out]; simp [t2])
      clear HE bp
      go_enter Tryd.func84, Tryd.ntmps84
      go_wp2_with first | (go_at_call 89; ((with_reducible refine (H1.out _).mono ?_); rintro e w' ⟨rfl, rfl⟩)) | (go_at_call 89; ((with_reducible refine (H2.out _).mono ?_); rintro e w' ⟨rfl, rfl⟩)) | (go_at_call 89; ((with_reducible refine (H3.out _).mono ?_); rintro e w' ⟨rfl, rfl⟩))
      go_ret
      exact ⟨by rw [HQ.out]; first | rfl | (simp; omega), rfl⟩
  · have HQ : Hid (q = false) := Lib.hid (by rw [HE.out]; simp [t1])
    clear HE bp
    go_enter Tryd.func84, Tryd.ntmps84
    go_wp2_with first | (go_at_call 89; ((with_reducible refine (H1.out _).mono ?_); rintro e w' ⟨rfl, rfl⟩)) | (go_at_call 89; ((with_reducible refine (H2.out _).mono ?_); rintro e w' ⟨rfl, rfl⟩)) | (go_at_call 89; ((with_reducible refine (H3.out _).mono ?_); rintro e w' ⟨rfl, rfl⟩))
    go_ret
    exact ⟨by rw [HQ.out]; first | rfl | (simp; omega), rfl⟩

end Go.Proofs.YtbhfapbhlkgmfaaDoor

namespace Go.Proofs.YtbhfapbhlkgmfaaDoor
open Go.RowKit Go.Sort
open Fx (Vl)
open Me

theorem isNaN_any (n : Int) (w : World) : Calls Tryd.prog 104 #[.int .i64 n] w fun e w' => e = .returned (.bool false) ∧ w = w' := by
  go_enter Tryd.func104, Tryd.ntmps104
  go_wp2
  go_ret
  exact ⟨rfl, rfl⟩

def Ag.cmp (m n : Int) : Int := if m < n then -1 else if n < m then 1 else 0
theorem compare_int (m n : Int) (w : World) : Calls Tryd.prog 100 #[.int .i64 m, .int .i64 n] w fun e w' => e = .returned (.int .i64 (Ag.cmp m n)) ∧ w = w' := by
  have HN : Hid (∀ n W, Calls Tryd.prog 104 #[.int .i64 n] W fun e w' => e = .returned (.bool false) ∧ W = w') := Lib.hid isNaN_any
  by_cases h1 : m < n
  · have HQ : Hid (Ag.cmp m n = -1) := Lib.hid (by unfold Ag.cmp; rw [if_pos h1])
    go_enter Tryd.func100, Tryd.ntmps100
    go_wp2_with (go_at_call 104; go_must (refine (HN.out _ _).mono ?_; rintro e w' ⟨rfl, rfl⟩))
    go_ret
    exact ⟨by rw [HQ.out]; rfl, rfl⟩
  · by_cases h2 : n < m
    · have HQ : Hid (Ag.cmp m n = 1) := Lib.hid (by unfold Ag.cmp; rw [if_neg h1, if_pos h2])
      go_enter Tryd.func100, Tryd.ntmps100
      go_wp2_with (go_at_call 104; go_must (refine (HN.out _ _).mono ?_; rintro e w' ⟨rfl, rfl⟩))
      go_ret
      exact ⟨by rw [HQ.out]; rfl, rfl⟩
    · have HQ : Hid (Ag.cmp m n = 0) := Lib.hid (by unfold Ag.cmp; rw [if_neg h1, if_neg h2])
      go_enter Tryd.func100, Tryd.ntmps100
      go_wp2_with (go_at_call 104; go_must (refine (HN.out _ _).mono ?_; rintro e w' ⟨rfl, rfl⟩))
      go_ret
      exact ⟨by rw [HQ.out]; rfl, rfl⟩

theorem compare_any (a : Bool) (m : Int) (b : Bool) (n : Int) (w : World) :
    Calls Tryd.prog 94 #[.agg #[.bool a, .int .i64 m], .agg #[.bool b, .int .i64 n]] w fun e w' => e = .returned (.int .i64 (Ag.cmp m n)) ∧ Below w.heap.size w w' := by
  have HC : Hid (∀ W, Calls Tryd.prog 100 #[.int .i64 m, .int .i64 n] W fun e w' => e = .returned (.int .i64 (Ag.cmp m n)) ∧ W = w') := Lib.hid fun W => compare_int m n W
  generalize Ag.cmp m n = c at *
  go_enter Tryd.func94, Tryd.ntmps94
  go_wp2_with (go_at_call 100; go_must (refine (HC.out _).mono ?_; rintro e w' ⟨rfl, rfl⟩))
  go_ret
  exact ⟨rfl, (by repeat (first | exact Below.refl _ _ | assumption | refine Below.setCell ?_ (by first | (simp; done) | omega | (simp; omega) | (simp at *; omega)) _ | refine Below.alloc ?_ (by first | (simp; done) | omega | (simp; omega) | (simp at *; omega)) _ | refine Below.drew ?_ | (refine Below.trans ?_ (Below.mono (by assumption) (by first | (simp; done) | omega | (simp; omega) | (simp at *; omega)))) | (refine Below.trans ?_ (Below.mono (below_regrown _ _ _) (by first | (simp; done) | omega | (simp; omega) | (simp at *; omega))))))⟩

/-- What holds at every turn: of the world; of the result's block r, of the block s of what is greatest (or least) so far. -/
structure BestRel (w wr : World) (r s : Nat) (v : Vl) : Prop where
  below : Below w.heap.size w wr
  r0 : w.heap.size ≤ r
  rs : r < s
  sz : s < wr.heap.size
  rc0 : wr.cell? ⟨r, 0, none⟩ = some (.bool false)
  rc1 : wr.cell? ⟨r, 1, none⟩ = some (.int .i64 0)
  rf0 : wr.frozen? ⟨r, 0, none⟩ = false
  rf1 : wr.frozen? ⟨r, 1, none⟩ = false
  sc0 : wr.cell? ⟨s, 0, none⟩ = some (.bool v.ok)
  sc1 : wr.cell? ⟨s, 1, none⟩ = some (.int .i64 v.n)
  sf0 : wr.frozen? ⟨s, 0, none⟩ = false
  sf1 : wr.frozen? ⟨s, 1, none⟩ = false
theorem BestRel.step {w wr wp : World} {r s : Nat} {v : Vl} (h : BestRel w wr r s v) (hb : Below wr.heap.size wr wp) : BestRel w wp r s v := by
  have hr0 := h.r0
  have hrs := h.rs
  have hs1 := h.sz
  have hr1 : r < wr.heap.size := by omega
  exact ⟨h.below.trans (hb.mono (by omega)), h.r0, h.rs, Nat.lt_of_lt_of_le h.sz hb.size, ((bcell hb).1 _ _ hr1).trans h.rc0, ((bcell hb).1 _ _ hr1).trans h.rc1, ((bcell hb).2 _ _ hr1).trans h.rf0, ((bcell hb).2 _ _ hr1).trans h.rf1,
    ((bcell hb).1 _ _ hs1).trans h.sc0, ((bcell hb).1 _ _ hs1).trans h.sc1, ((bcell hb).2 _ _ hs1).trans h.sf0, ((bcell hb).2 _ _ hs1).trans h.sf1⟩
theorem BestRel.set_ {w wr : World} {r s : Nat} {v : Vl} (h : BestRel w wr r s v) (ok : Bool) (n : Int) :
    BestRel w ((wr.setCell ⟨s, 0, none⟩ (.bool ok)).setCell ⟨s, 1, none⟩ (.int .i64 n)) r s ⟨ok, n⟩ := by
  have hs1 := h.sz
  have hrs := h.rs
  have hr0 := h.r0
  have hne : r ≠ s := by omega
  have c0 := h.sc0
  have c1 := h.sc1
  have d0 := h.rc0
  have d1 := h.rc1
  have f0 := h.sf0
  have f1 := h.sf1
  have g0 := h.rf0
  have g1 := h.rf1
  refine ⟨?_, hr0, hrs, by simp; omega, ?_, ?_, ?_, ?_, ?_, ?_, ?_, ?_⟩
  · exact Below.setCell (Below.setCell h.below (by show _ ≤ s; omega) _) (by show _ ≤ s; omega) _
  all_goals simp [go_sem, *]
theorem BestRel.start (w : World) (T : TypeId) (ok : Bool) (n : Int) :
    BestRel w ((w.alloc (.cells #[.bool false, .int .i64 0] T)).alloc (.cells #[.bool ok, .int .i64 n] T)) w.heap.size (w.heap.size + 1) ⟨ok, n⟩ := by
  refine ⟨((Below.refl _ _).alloc (Nat.le_refl _) _).alloc (by simp) _, Nat.le_refl _, by omega, by simp, ?_, ?_, ?_, ?_, ?_, ?_, ?_, ?_⟩
  all_goals simp [go_sem]

set_option maxHeartbeats 2000000 in
theorem maxFunc_some (l : List Vl) (h0 : 0 < l.length) (hl : l.length ≤ 4611686018427387904) (b off cap : Nat) (w : World) (hv : Vals w b off l) :
    Calls Tryd.prog 93 #[.slice (some ⟨b, off, none⟩) l.length cap, .func (.func 94) #[] #[]] w fun e w' => e = .returned (.agg #[.bool (Ag.mx l).ok, .int .i64 (Ag.mx l).n]) ∧ Below w.heap.size w w' := by
  have x0 := hv.ok 0 h0
  have x1 := hv.n 0 h0
  rw [Nat.zero_mul, Nat.add_zero] at x0 x1
  have hbr0 := hv.lt
  have HM := Lib.hid (Ag.mx_one l h0)
  generalize l[0] = e0 at *
  obtain ⟨fo, fn⟩ := e0
  have h1l : ¬ ((l.length : Int) < 1) := by omega
  go_enter Tryd.func93, Tryd.ntmps93
  go_wp2_with fail
  go_loopw [6] (fun i wr => ∃ k : Nat, 1 ≤ k ∧ k ≤ l.length ∧ i = .int .i64 k ∧ BestRel w wr w.heap.size (w.heap.size + 1) (Ag.mx (l.take k))) (fun i _ => l.length - (intOf i).toNat)
  case atStart => exact ⟨1, Nat.le_refl _, h0, rfl, by rw [HM.out]; exact BestRel.start _ _ _ _⟩
  case round =>
    obtain ⟨k, hk1, hk, rfl, hR⟩ := hrel
    have hsz := hR.sz
    have rc0 := hR.rc0
    have rc1 := hR.rc1
    have rf0 := hR.rf0
    have rf1 := hR.rf1
    have sc0 := hR.sc0
    have sc1 := hR.sc1
    have sf0 := hR.sf0
    have sf1 := hR.sf1
    by_cases hlt : k < l.length
    · have hvr := hv.below hR.below
      have ec0 := hvr.ok k hlt
      have ec1 := hvr.n k hlt
      have hbr := hvr.lt
      have hst := Lib.hid (Ag.mx_take l k hk1 hlt)
      have HR := Lib.hid hR
      clear hR hvr
      generalize l[k] = ek at *
      generalize Ag.mx (l.take k) = sk at *
      obtain ⟨eo, en⟩ := ek
      obtain ⟨so, sn⟩ := sk
      have hkl : (k : Int) < (l.length : Int) := by omega
      have hk0 : (0 : Int) ≤ (k : Int) := by omega
      obtain ⟨kc, kf⟩ := kgrown wr
      by_cases hc : sn < en
      · have HC : Hid (∀ W, Calls Tryd.prog 94 #[.agg #[.bool eo, .int .i64 en], .agg #[.bool so, .int .i64 sn]] W fun e w' => e = .returned (.int .i64 1) ∧ Below W.heap.size W w') := Lib.hid fun W => by
          have := compare_any eo en so sn W
          unfold Ag.cmp at this
          rw [if_neg (by omega), if_pos hc] at this
          exact this
        have HT := Lib.hid (Ag.mx1_yes (a := ⟨so, sn⟩) (b := ⟨eo, en⟩) hc)
        go_wp2_with fail
        refine wp_region_quiet_below (by kernel_rfl) (by kernel_rfl) ?_
        repeat (quiet_step ((go_at_call 94; exact Calls.regrown_of (HC.out _))))
        refine wpQuiet_nil ?_
        intro _ hw'
        obtain ⟨⟨dq, osq⟩, hw''⟩ := hw'
        subst hw''
        go_wp2_with fail
        go_roundw
        case rel => exact ⟨k + 1, by omega, by omega, by go_num, by rw [hst.out, HT.out]; exact (HR.out.step (below_regrown wr dq osq)).set_ _ _⟩
        case measure => simp [intOf]; omega
      · have HC : Hid (∀ W, Calls Tryd.prog 94 #[.agg #[.bool eo, .int .i64 en], .agg #[.bool so, .int .i64 sn]] W fun e w' => e = .returned (.int .i64 (Ag.cmp en sn)) ∧ Below W.heap.size W w') := Lib.hid fun W => compare_any eo en so sn W
        have hcn : ¬ 0 < Ag.cmp en sn := by unfold Ag.cmp; split <;> (try split) <;> omega
        generalize Ag.cmp en sn = cq at *
        have HT := Lib.hid (Ag.mx1_no (a := ⟨so, sn⟩) (b := ⟨eo, en⟩) hc)
        go_wp2_with fail
        refine wp_region_quiet_below (by kernel_rfl) (by kernel_rfl) ?_
        repeat (quiet_step ((go_at_call 94; exact Calls.regrown_of (HC.out _))))
        refine wpQuiet_nil ?_
        intro _ hw'
        obtain ⟨⟨dq, osq⟩, hw''⟩ := hw'
        subst hw''
        go_wp2_with fail
        go_roundw
        case rel => exact ⟨k + 1, by omega, by omega, by go_num, by rw [hst.out, HT.out]; exact HR.out.step (below_regrown wr dq osq)⟩
        case measure => simp [intOf]; omega
    · obtain rfl : k = l.length := by omega
      have hbb := hR.below
      have hr0 := hR.r0
      rw [List.take_length] at *
      clear hR
      go_wp2
      exact bodyPost_ret (v := (.agg #[.bool (Ag.mx l).ok, .int .i64 (Ag.mx l).n])) (by simp [results, Tryd.results93, go_sem, *]) rfl ⟨rfl, (by repeat (first | exact Below.refl _ _ | assumption | refine Below.setCell ?_ (by first | (simp; done) | omega | (simp; omega) | (simp at *; omega)) _ | refine Below.alloc ?_ (by first | (simp; done) | omega | (simp; omega) | (simp at *; omega)) _ | refine Below.drew ?_ | (refine Below.trans ?_ (Below.mono (by assumption) (by first | (simp; done) | omega | (simp; omega) | (simp at *; omega)))) | (refine Below.trans ?_ (Below.mono (below_regrown _ _ _) (by first | (simp; done) | omega | (simp; omega) | (simp at *; omega))))))⟩

set_option maxHeartbeats 2000000 in
theorem minFunc_some (l : List Vl) (h0 : 0 < l.length) (hl : l.length ≤ 4611686018427387904) (b off cap : Nat) (w : World) (hv : Vals w b off l) :
    Calls Tryd.prog 95 #[.slice (some ⟨b, off, none⟩) l.length cap, .func (.func 94) #[] #[]] w fun e w' => e = .returned (.agg #[.bool (Ag.mn l).ok, .int .i64 (Ag.mn l).n]) ∧ Below w.heap.size w w' := by
  have x0 := hv.ok 0 h0
  have x1 := hv.n 0 h0
  rw [Nat.zero_mul, Nat.add_zero] at x0 x1
  have hbr0 := hv.lt
  have HM := Lib.hid (Ag.mn_one l h0)
  generalize l[0] = e0 at *
  obtain ⟨fo, fn⟩ := e0
  have h1l : ¬ ((l.length : Int) < 1) := by omega
  go_enter Tryd.func95, Tryd.ntmps95
  go_wp2_with fail
  go_loopw [6] (fun i wr => ∃ k : Nat, 1 ≤ k ∧ k ≤ l.length ∧ i = .int .i64 k ∧ BestRel w wr w.heap.size (w.heap.size + 1) (Ag.mn (l.take k))) (fun i _ => l.length - (intOf i).toNat)
  case atStart => exact ⟨1, Nat.le_refl _, h0, rfl, by rw [HM.out]; exact BestRel.start _ _ _ _⟩
  case round =>
    obtain ⟨k, hk1, hk, rfl, hR⟩ := hrel
    have hsz := hR.sz
    have rc0 := hR.rc0
    have rc1 := hR.rc1
    have rf0 := hR.rf0
    have rf1 := hR.rf1
    have sc0 := hR.sc0
    have sc1 := hR.sc1
    have sf0 := hR.sf0
    have sf1 := hR.sf1
    by_cases hlt : k < l.length
    · have hvr := hv.below hR.below
      have ec0 := hvr.ok k hlt
      have ec1 := hvr.n k hlt
      have hbr := hvr.lt
      have hst := Lib.hid (Ag.mn_take l k hk1 hlt)
      have HR := Lib.hid hR
      clear hR hvr
      generalize l[k] = ek at *
      generalize Ag.mn (l.take k) = sk at *
      obtain ⟨eo, en⟩ := ek
      obtain ⟨so, sn⟩ := sk
      have hkl : (k : Int) < (l.length : Int) := by omega
      have hk0 : (0 : Int) ≤ (k : Int) := by omega
      obtain ⟨kc, kf⟩ := kgrown wr
      by_cases hc : en < sn
      · have HC : Hid (∀ W, Calls Tryd.prog 94 #[.agg #[.bool eo, .int .i64 en], .agg #[.bool so, .int .i64 sn]] W fun e w' => e = .returned (.int .i64 (-1)) ∧ Below W.heap.size W w') := Lib.hid fun W => by
          have := compare_any eo en so sn W
          unfold Ag.cmp at this
          rw [if_pos hc] at this
          exact this
        have HT := Lib.hid (Ag.mn1_yes (a := ⟨so, sn⟩) (b := ⟨eo, en⟩) hc)
        go_wp2_with fail
        refine wp_region_quiet_below (by kernel_rfl) (by kernel_rfl) ?_
        repeat (quiet_step ((go_at_call 94; exact Calls.regrown_of (HC.out _))))
        refine wpQuiet_nil ?_
        intro _ hw'
        obtain ⟨⟨dq, osq⟩, hw''⟩ := hw'
        subst hw''
        go_wp2_with fail
        go_roundw
        case rel => exact ⟨k + 1, by omega, by omega, by go_num, by rw [hst.out, HT.out]; exact (HR.out.step (below_regrown wr dq osq)).set_ _ _⟩
        case measure => simp [intOf]; omega
      · have HC : Hid (∀ W, Calls Tryd.prog 94 #[.agg #[.bool eo, .int .i64 en], .agg #[.bool so, .int .i64 sn]] W fun e w' => e = .returned (.int .i64 (Ag.cmp en sn)) ∧ Below W.heap.size W w') := Lib.hid fun W => compare_any eo en so sn W
        have hcn : ¬ Ag.cmp en sn < 0 := by unfold Ag.cmp; split <;> (try split) <;> omega
        generalize Ag.cmp en sn = cq at *
        have HT := Lib.hid (Ag.mn1_no (a := ⟨so, sn⟩) (b := ⟨eo, en⟩) hc)
        go_wp2_with fail
        refine wp_region_quiet_below (by kernel_rfl) (by kernel_rfl) ?_
        repeat (quiet_step ((go_at_call 94; exact Calls.regrown_of (HC.out _))))
        refine wpQuiet_nil ?_
        intro _ hw'
        obtain ⟨⟨dq, osq⟩, hw''⟩ := hw'
        subst hw''
        go_wp2_with fail
        go_roundw
        case rel => exact ⟨k + 1, by omega, by omega, by go_num, by rw [hst.out, HT.out]; exact HR.out.step (below_regrown wr dq osq)⟩
        case measure => simp [intOf]; omega
    · obtain rfl : k = l.length := by omega
      have hbb := hR.below
      have hr0 := hR.r0
      rw [List.take_length] at *
      clear hR
      go_wp2
      exact bodyPost_ret (v := (.agg #[.bool (Ag.mn l).ok, .int .i64 (Ag.mn l).n])) (by simp [results, Tryd.results95, go_sem, *]) rfl ⟨rfl, (by repeat (first | exact Below.refl _ _ | assumption | refine Below.setCell ?_ (by first | (simp; done) | omega | (simp; omega) | (simp at *; omega)) _ | refine Below.alloc ?_ (by first | (simp; done) | omega | (simp; omega) | (simp at *; omega)) _ | refine Below.drew ?_ | (refine Below.trans ?_ (Below.mono (by assumption) (by first | (simp; done) | omega | (simp; omega) | (simp at *; omega)))) | (refine Below.trans ?_ (Below.mono (below_regrown _ _ _) (by first | (simp; done) | omega | (simp; omega) | (simp at *; omega))))))⟩
end Go.Proofs.YtbhfapbhlkgmfaaDoor

namespace Go.Proofs.YtbhfapbhlkgmfaaDoor
namespace Dv

/-- What holds of a guess q of a digit, and of what is left, r, at every turn. -/
structure Inv (n1 n0 u t q r : Nat) : Prop where
  sum : q * n1 + r = u
  low : (u * 4294967296 + t) / (n1 * 4294967296 + n0) ≤ q
  top : q ≤ 4294967297

theorem y_pos {n1 n0 : Nat} (h1 : 2147483648 ≤ n1) : 0 < n1 * 4294967296 + n0 := by omega

theorem digit_aux (u t y : Nat) (hu : u < y) (ht : t < 4294967296) : u * 4294967296 + t < 4294967296 * y := by omega

theorem digit_lt {n1 n0 u t : Nat} (h1 : 2147483648 ≤ n1) (hu : u < n1 * 4294967296 + n0) (ht : t < 4294967296) :
    (u * 4294967296 + t) / (n1 * 4294967296 + n0) < 4294967296 := by
  rw [Nat.div_lt_iff_lt_mul (y_pos h1)]
  exact digit_aux _ _ _ hu ht

theorem start {n1 n0 u t : Nat} (h1 : 2147483648 ≤ n1) (h0 : n0 < 4294967296) (hu : u < n1 * 4294967296 + n0) (ht : t < 4294967296) :
    Inv n1 n0 u t (u / n1) (u % n1) := by
  refine ⟨by rw [Nat.mul_comm]; exact Nat.div_add_mod u n1, ?_, ?_⟩
  · rw [Nat.le_div_iff_mul_le (by omega)]
    have h := Nat.div_mul_le_self (u * 4294967296 + t) (n1 * 4294967296 + n0)
    generalize (u * 4294967296 + t) / (n1 * 4294967296 + n0) = Q at *
    rw [Nat.mul_add, ← Nat.mul_assoc] at h
    generalize Q * n1 = a at *
    generalize Q * n0 = b at *
    omega
  · have : u / n1 < 4294967298 := by rw [Nat.div_lt_iff_lt_mul (by omega)]; omega
    omega

theorem step {n1 n0 u t q r : Nat} (h1 : 2147483648 ≤ n1) (hu : u < n1 * 4294967296 + n0) (ht : t < 4294967296)
    (h : Inv n1 n0 u t q r) (hc : 4294967296 ≤ q ∨ 4294967296 * r + t < q * n0) : 1 ≤ q ∧ Inv n1 n0 u t (q - 1) (r + n1) ∧ (u * 4294967296 + t) / (n1 * 4294967296 + n0) < q := by
  obtain ⟨hs, hl, ht'⟩ := h
  have hlt : (u * 4294967296 + t) / (n1 * 4294967296 + n0) < q := by
    rcases hc with hc | hc
    · exact Nat.lt_of_lt_of_le (digit_lt h1 hu ht) hc
    · rw [Nat.div_lt_iff_lt_mul (y_pos h1), Nat.mul_add, ← Nat.mul_assoc]
      generalize q * n1 = a at *
      generalize q * n0 = b at *
      omega
  have h1q : 1 ≤ q := Nat.lt_of_le_of_lt (Nat.zero_le _) hlt
  refine ⟨h1q, ⟨?_, Nat.le_sub_one_of_lt hlt, by omega⟩, hlt⟩
  obtain ⟨p, rfl⟩ : ∃ p, q = p + 1 := ⟨q - 1, by omega⟩
  rw [Nat.add_sub_cancel]
  rw [Nat.add_mul] at hs
  omega

/-- Whichever way the turns end, the guess is the digit, and nothing is borrowed. -/
theorem stop {n1 n0 u t q r : Nat} (h1 : 2147483648 ≤ n1) (h0 : n0 < 4294967296)
    (h : Inv n1 n0 u t q r) (hc : (q * n0 ≤ 4294967296 * r + t) ∨ (4294967296 ≤ r ∧ q ≤ 4294967296)) :
    q = (u * 4294967296 + t) / (n1 * 4294967296 + n0) ∧ q * (n1 * 4294967296 + n0) ≤ u * 4294967296 + t := by
  obtain ⟨hs, hl, _⟩ := h
  have hle : q * n0 ≤ 4294967296 * r + t := by
    rcases hc with hc | ⟨hr, hq⟩
    · exact hc
    · have := Nat.mul_le_mul hq (show n0 ≤ 4294967295 by omega)
      omega
  have hy : q * (n1 * 4294967296 + n0) ≤ u * 4294967296 + t := by
    rw [Nat.mul_add, ← Nat.mul_assoc]
    generalize q * n1 = a at *
    generalize q * n0 = b at *
    omega
  exact ⟨Nat.le_antisymm ((Nat.le_div_iff_mul_le (y_pos h1)).2 hy) hl, hy⟩

theorem prod_lt {q n0 : Nat} (hq : q < 4294967296) (h0 : n0 < 4294967296) : q * n0 < 18446744073709551616 := by
  have := Nat.mul_le_mul (show q ≤ 4294967295 by omega) (show n0 ≤ 4294967295 by omega)
  omega

/-- Two digits in turn are the whole. -/
theorem two_aux (a b m d0 : Nat) (h : b + m = a) : a * 4294967296 + d0 = (m * 4294967296 + d0) + b * 4294967296 := by omega
theorem two' (a d0 y : Nat) (hy : 0 < y) :
    (a * 4294967296 + d0) / y = a / y * 4294967296 + (a % y * 4294967296 + d0) / y ∧
    (a * 4294967296 + d0) % y = (a % y * 4294967296 + d0) % y := by
  rw [two_aux a (y * (a / y)) (a % y) d0 (Nat.div_add_mod a y), Nat.mul_assoc, Nat.add_mul_div_left _ _ hy, Nat.add_mul_mod_self_left]
  exact ⟨Nat.add_comm _ _, rfl⟩

/-- Both numbers doubled as often: the quotient is the same, what is left is doubled as often. -/
theorem scaled (N y S : Nat) (hS : 0 < S) : N * S / (y * S) = N / y ∧ N * S % (y * S) / S = N % y := by
  refine ⟨Nat.mul_div_mul_right _ _ hS, ?_⟩
  rw [Nat.mul_mod_mul_right, Nat.mul_div_cancel _ hS]

theorem shifted_aux (a b c d : Nat) (h : 18446744073709551616 * c + d = a) : b * 18446744073709551616 + a = (b + c) * 18446744073709551616 + d := by omega
/-- The two words doubled. -/
theorem shifted (hi lo S T : Nat) (hST : S * T = 18446744073709551616) (hS : 0 < S) :
    (hi * 18446744073709551616 + lo) * S = (hi * S + lo / T) * 18446744073709551616 + lo * S % 18446744073709551616 := by
  have e : lo * S / 18446744073709551616 = lo / T := by
    rw [← hST, Nat.mul_comm S T]; exact Nat.mul_div_mul_right _ _ hS
  have h := Nat.div_add_mod (lo * S) 18446744073709551616
  rw [e] at h
  have e2 : (hi * 18446744073709551616 + lo) * S = hi * S * 18446744073709551616 + lo * S := by rw [Nat.add_mul, Nat.mul_right_comm]
  rw [e2]
  exact shifted_aux (lo * S) (hi * S) (lo / T) (lo * S % 18446744073709551616) h

theorem high_lt {hi lo y S T : Nat} (hST : S * T = 18446744073709551616) (hlo : lo < 18446744073709551616) (h : hi < y) : hi * S + lo / T < y * S ∧ lo / T < S := by
  have h1 : lo / T < S := by
    rw [Nat.div_lt_iff_lt_mul (Nat.pos_of_ne_zero (fun h0 => by rw [h0] at hST; omega))]; omega
  have h2 := Nat.mul_le_mul_right S (show hi + 1 ≤ y from h)
  rw [Nat.add_mul] at h2
  omega

/-- The same over whole numbers with a sign. -/
def InvI (n1 n0 u t : Nat) (a b : Int) : Prop := 0 ≤ a ∧ 0 ≤ b ∧ b ≤ 4294967295 ∧ Inv n1 n0 u t a.toNat b.toNat

theorem startI {n1 n0 u t : Nat} (h1 : 2147483648 ≤ n1) (h2 : n1 < 4294967296) (h0 : n0 < 4294967296) (hu : u < n1 * 4294967296 + n0) (ht : t < 4294967296) :
    InvI n1 n0 u t ((u / n1 : Nat) : Int) ((u % n1 : Nat) : Int) :=
  ⟨Int.natCast_nonneg _, Int.natCast_nonneg _, by have := Nat.mod_lt u (show 0 < n1 by omega); omega, by rw [Int.toNat_natCast, Int.toNat_natCast]; exact start h1 h0 hu ht⟩

theorem boundsI {n1 n0 u t : Nat} {a b : Int} (h : InvI n1 n0 u t a b) : 0 ≤ a ∧ a ≤ 4294967297 ∧ 0 ≤ b ∧ b ≤ 4294967295 := by
  obtain ⟨h1, h2, h3, h4⟩ := h
  have := h4.top
  exact ⟨h1, by omega, h2, h3⟩

theorem prodI {a : Int} {n0 : Nat} (h0 : 0 ≤ a) (h1 : a ≤ 4294967295) (h : n0 < 4294967296) : ∃ P : Int, a * (n0 : Int) = P ∧ 0 ≤ P ∧ P ≤ 18446744073709551615 := by
  obtain ⟨x, rfl⟩ := Int.eq_ofNat_of_zero_le h0
  have hp := prod_lt (q := x) (n0 := n0) (by omega) h
  refine ⟨_, rfl, by rw [← Int.natCast_mul]; exact Int.natCast_nonneg _, ?_⟩
  rw [← Int.natCast_mul]
  omega

theorem stepI_nat {n1 n0 u t : Nat} {a b : Int} (h1 : 2147483648 ≤ n1) (hu : u < n1 * 4294967296 + n0) (ht : t < 4294967296)
    (h : InvI n1 n0 u t a b) (hc : 4294967296 ≤ a ∨ 4294967296 * b + t < a * n0) : 1 ≤ a.toNat ∧ Inv n1 n0 u t (a.toNat - 1) (b.toNat + n1) := by
  obtain ⟨ha, hb, h3, h4⟩ := h
  obtain ⟨x, rfl⟩ := Int.eq_ofNat_of_zero_le ha
  obtain ⟨z, rfl⟩ := Int.eq_ofNat_of_zero_le hb
  simp only [Int.toNat_natCast] at h4 ⊢
  have hs := step h1 hu ht h4 (by
    rcases hc with hc | hc
    · exact .inl (by omega)
    · right
      rw [← Int.natCast_mul] at hc
      omega)
  exact ⟨hs.1, hs.2.1⟩

/-- A turn that goes on. -/
theorem stepI {n1 n0 u t : Nat} {a b : Int} (h1 : 2147483648 ≤ n1) (hu : u < n1 * 4294967296 + n0) (ht : t < 4294967296)
    (h : InvI n1 n0 u t a b) (hc : 4294967296 ≤ a ∨ 4294967296 * b + t < a * n0) (hb2 : b + n1 ≤ 4294967295) : 1 ≤ a ∧ InvI n1 n0 u t (a - 1) (b + n1) := by
  obtain ⟨hs1, hs2⟩ := stepI_nat h1 hu ht h hc
  obtain ⟨ha, hb, h3, h4⟩ := h
  refine ⟨by omega, by omega, by omega, hb2, ?_⟩
  have e1 : (a - 1).toNat = a.toNat - 1 := by omega
  have e2 : (b + (n1 : Int)).toNat = b.toNat + n1 := by omega
  rw [e1, e2]
  exact hs2

/-- The way out behind a turn. -/
theorem breakI {n1 n0 u t Q : Nat} {a b : Int} (h1 : 2147483648 ≤ n1) (h0 : n0 < 4294967296) (hu : u < n1 * 4294967296 + n0) (ht : t < 4294967296)
    (hQ : Q = (u * 4294967296 + t) / (n1 * 4294967296 + n0))
    (h : InvI n1 n0 u t a b) (hc : 4294967296 ≤ a ∨ 4294967296 * b + t < a * n0) (hb2 : 4294967296 ≤ b + n1) : a = (Q : Int) + 1 := by
  obtain ⟨hs1, hs2⟩ := stepI_nat h1 hu ht h hc
  obtain ⟨ha, hb, h3, h4⟩ := h
  have htop := h4.top
  have := (stop h1 h0 hs2 (.inr ⟨by omega, by omega⟩)).1.trans hQ.symm
  omega

/-- The way out ahead of a turn. -/
theorem doneI {n1 n0 u t Q : Nat} {a b : Int} (h1 : 2147483648 ≤ n1) (h0 : n0 < 4294967296)
    (hQ : Q = (u * 4294967296 + t) / (n1 * 4294967296 + n0))
    (h : InvI n1 n0 u t a b) (hc : a * n0 ≤ 4294967296 * b + t) : a = (Q : Int) := by
  obtain ⟨ha, hb, h3, h4⟩ := h
  obtain ⟨x, rfl⟩ := Int.eq_ofNat_of_zero_le ha
  obtain ⟨z, rfl⟩ := Int.eq_ofNat_of_zero_le hb
  simp only [Int.toNat_natCast] at h4
  have := (stop h1 h0 h4 (.inl (by rw [← Int.natCast_mul] at hc; omega))).1.trans hQ.symm
  omega
end Dv
end Go.Proofs.YtbhfapbhlkgmfaaDoor
