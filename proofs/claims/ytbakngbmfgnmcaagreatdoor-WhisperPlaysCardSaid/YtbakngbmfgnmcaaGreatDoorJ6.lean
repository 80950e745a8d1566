/- AgPure WpPure VrMake WpRO WhSide WhMay WhRef AgRow WpAt WpVal -/
import Derived.Test.YtbakngbmfgnmcaaGreatDoorJ1
import Derived.Test.YtbakngbmfgnmcaaGreatDoorJ5
import Derived.Test.YtbakngbmfgnmcaaGreatDoorJ2
import Derived.Test.YtbakngbmfgnmcaaGreatDoorJ4
import Derived.Test.YtbakngbmfgnmcaaGreatDoorJ3
import Derived.Test.YtbakngbmfgnmcaaGreatDoorRows
import Derived.WalkKit
import Derived.WalkSpells
import Derived.WalkLawsBesides
import Derived.Deep.QuietTactic
import Derived.BigQuiet
import Derived.Lib.QuietBelow
import Derived.Lib.Hide
import Derived.IntWalk
import Derived.Deep.RegionHeld3
import Derived.Laws.MakeOwn
namespace Go.Proofs.YtbakngbmfgnmcaaGreatDoor
set_option maxRecDepth 100000
set_option maxHeartbeats 8000000
section
open Go.RowKit
open Fx (Vl)
namespace Ag
def kn (l : List Vl) : List Vl := l.filter Fx.num
theorem kn_take (l : List Vl) (k : Nat) (h : k < l.length) : kn (l.take (k + 1)) = if Fx.num l[k] = true then kn (l.take k) ++ [l[k]] else kn (l.take k) := by
 unfold kn
 rw [List.take_succ_eq_append_getElem h, List.filter_append]
 by_cases hn : Fx.num l[k] = true
 ·rw [if_pos hn]; simp [hn]
 ·rw [if_neg hn]; simp [hn]
theorem kn_len (l : List Vl) : (kn l).length ≤ l.length := List.length_filter_le _ _
theorem kn_take_len (l : List Vl) (k : Nat) : (kn (l.take k)).length ≤ k := Nat.le_trans (kn_len _) (by rw [List.length_take]; omega)
def mx1 (a b : Vl) : Vl := if a.n < b.n then b else a
def mn1 (a b : Vl) : Vl := if b.n < a.n then b else a
def mx (l : List Vl) : Vl := match l with | [] => Fx.none | x :: r => r.foldl mx1 x
def mn (l : List Vl) : Vl := match l with | [] => Fx.none | x :: r => r.foldl mn1 x
theorem mx_take (l : List Vl) (k : Nat) (h0 : 0 < k) (h : k < l.length) : mx (l.take (k + 1)) = mx1 (mx (l.take k)) l[k] := by
 rw [List.take_succ_eq_append_getElem h]
 cases hl : l.take k with
 | nil => have := congrArg List.length hl; rw [List.length_take, Nat.min_eq_left (Nat.le_of_lt h)] at this; simp at this; omega
 | cons x r => simp [mx, List.foldl_append]
theorem mn_take (l : List Vl) (k : Nat) (h0 : 0 < k) (h : k < l.length) : mn (l.take (k + 1)) = mn1 (mn (l.take k)) l[k] := by
 rw [List.take_succ_eq_append_getElem h]
 cases hl : l.take k with
 | nil => have := congrArg List.length hl; rw [List.length_take, Nat.min_eq_left (Nat.le_of_lt h)] at this; simp at this; omega
 | cons x r => simp [mn, List.foldl_append]
theorem mx_one (l : List Vl) (h : 0 < l.length) : mx (l.take 1) = l[0] := by cases l with | nil => cases h | cons x r => rfl
theorem mn_one (l : List Vl) (h : 0 < l.length) : mn (l.take 1) = l[0] := by cases l with | nil => cases h | cons x r => rfl
theorem mx1_yes {a b : Vl} (h : a.n < b.n) : mx1 a b = b := if_pos h
theorem mx1_no {a b : Vl} (h : ¬ a.n < b.n) : mx1 a b = a := if_neg h
theorem mn1_yes {a b : Vl} (h : b.n < a.n) : mn1 a b = b := if_pos h
theorem mn1_no {a b : Vl} (h : ¬ b.n < a.n) : mn1 a b = a := if_neg h
def tg (kind : Int) (k : List Vl) : Vl :=
 if k.length = 0 then Fx.none
 else if kind = 1 then Fx.div (sum k) (Fx.of ((k.length : Int) * 1000000))
 else if kind = 2 then sum k
 else if kind = 3 then k.getD (k.length - 1) Fx.none
 else if kind = 4 then mx k
 else if kind = 5 then mn k
 else Fx.none
theorem tg_nil (kind : Int) : tg kind [] = Fx.none := rfl
theorem tg_1 {k : List Vl} (h : 0 < k.length) : tg 1 k = Fx.div (sum k) (Fx.of ((k.length : Int) * 1000000)) := by unfold tg; rw [if_neg (Nat.ne_of_gt h), if_pos (Eq.refl (1 : Int))]
theorem tg_2 {k : List Vl} (h : 0 < k.length) : tg 2 k = sum k := by unfold tg; rw [if_neg (Nat.ne_of_gt h), if_neg (by decide), if_pos (Eq.refl (2 : Int))]
theorem tg_3 {k : List Vl} (h : 0 < k.length) : tg 3 k = k[k.length - 1]'(by omega) := by
 unfold tg; rw [if_neg (Nat.ne_of_gt h), if_neg (by decide), if_neg (by decide), if_pos (Eq.refl (3 : Int))]
 rw [List.getD_eq_getElem?_getD, List.getElem?_eq_getElem (by omega)]; rfl
theorem tg_4 {k : List Vl} (h : 0 < k.length) : tg 4 k = mx k := by unfold tg; rw [if_neg (Nat.ne_of_gt h), if_neg (by decide), if_neg (by decide), if_neg (by decide), if_pos (Eq.refl (4 : Int))]
theorem tg_5 {k : List Vl} (h : 0 < k.length) : tg 5 k = mn k := by unfold tg; rw [if_neg (Nat.ne_of_gt h), if_neg (by decide), if_neg (by decide), if_neg (by decide), if_neg (by decide), if_pos (Eq.refl (5 : Int))]
theorem tg_no {kind : Int} {k : List Vl} (h1 : kind ≠ 1) (h2 : kind ≠ 2) (h3 : kind ≠ 3) (h4 : kind ≠ 4) (h5 : kind ≠ 5) : tg kind k = Fx.none := by
 unfold tg; rw [if_neg h1, if_neg h2, if_neg h3, if_neg h4, if_neg h5]; split <;> rfl
def lim (n : Int) : Int := if n < 0 then 0 else if 16777216 < n then 16777216 else n
theorem lim_bd (n : Int) : 0 ≤ lim n ∧ lim n ≤ 16777216 := by
 unfold lim
 split
 ·omega
 ·split <;> omega
def en (xff known all : Int) : Bool := decide (0 < lim known ∧ lim known ≤ lim all ∧ lim xff * lim all ≤ lim known * 1000000)
def put (kind xff : Int) (l : List Vl) : Vl := if en xff ((kn l).length : Int) (l.length : Int) = true then tg kind (kn l) else Fx.none
end Ag
end
section
open Go.RowKit
open Fx (Vl)
open Vf (Fl Sv)
namespace Wp
structure Hd where
 ag : Int
 xf : Int
 l : List (Int × Int)
def Hd.zero : Hd := ⟨0, 0, []⟩
def Hd.val (h : Hd) : Bool := Wh.val h.ag h.xf h.l
def Hd.size (h : Hd) : Int := Wh.size h.ag h.xf h.l
def Hd.offs (h : Hd) (i : Int) : Int := Wh.offs h.ag h.xf h.l i
def Hd.span (h : Hd) : Int := Wh.spn h.ag h.xf h.l
def Hd.step (h : Hd) (i : Nat) : Int := (Wh.At h.l i).1
def Hd.cnt (h : Hd) (i : Nat) : Int := (Wh.At h.l i).2
def hdOf (b : List UInt8) : Hd := ⟨Wh.dag b, Wh.dxf b, Wh.dl b⟩
def info (fs : List Fl) (n : List UInt8) : Hd × Int :=
 if (Vf.size fs n).2 ≠ 0 then (Hd.zero, (Vf.size fs n).2)
 else
  let b := (Vf.read fs n 0 (Vf.size fs n).1).1
  if Wh.derr b ≠ 0 ∨ (hdOf b).size ≠ (Vf.size fs n).1 then (Hd.zero, 2) else (hdOf b, 0)
def create (S : Sv) (n : List UInt8) (h : Hd) : Sv × Int :=
 if h.val = false then (S, 1)
 else
  let b := Wh.enc h.ag h.xf h.l
  let R := Vf.create S n (b ++ List.replicate (h.size - (b.length : Int)).toNat 0)
  if R.2 = 0 then ({ R.1 with was := R.1.now, l := [] }, 0) else (R.1, R.2)
def at_ (h : Hd) (i : Nat) (t : Int) : Int := h.offs i + 12 * Sl.pl (h.step i) (h.cnt i) t
def pt (b : List UInt8) : Int × Int := (Sl.dat b, Sl.dnn b)
def value (fs : List Fl) (n : List UInt8) (h : Hd) (i : Nat) (t : Int) : Vl :=
 let p := pt (Vf.read fs n (at_ h i t) 12).1
 let u := Sl.al t (h.step i)
 if u ≤ 0 ∨ p.1 ≠ u then Fx.none else Fx.of p.2
def write (S : Sv) (n : List UInt8) (h : Hd) (i : Nat) (t v : Int) : Sv :=
 let a := at_ h i t
 let S1 := (Vf.write S n a [0, 0, 0, 0]).1
 let S2 := (Vf.write S1 n (a + 4) (Sl.beb v 8)).1
 (Vf.write S2 n a (Sl.beb (Sl.lim (Sl.al t (h.step i))) 4)).1
def vals (fs : List Fl) (n : List UInt8) (h : Hd) (i : Nat) (t : Int) (k : Nat) : List Vl :=
 (List.range k).map fun (j : Nat) => value fs n h i (Sl.al t (h.step (i + 1)) + (j : Int) * h.step i)
def many (h : Hd) (i : Nat) : Nat := (h.step (i + 1) / h.step i).toNat
def passes (S : Sv) (n : List UInt8) (h : Hd) (i : Nat) (t : Int) : Sv × Bool :=
 let v := Ag.put h.ag h.xf (vals S.now n h i t (many h i))
 if v.ok = false ∨ Sl.al t (h.step (i + 1)) = 0 then (S, false) else (write S n h (i + 1) t v.n, true)
def climb (n : List UInt8) (h : Hd) (t : Int) : Nat → Sv → Nat → Sv
 | 0, S, _ => S
 | m + 1, S, k => if (passes S n h k t).2 = true then climb n h t m (passes S n h k t).1 (k + 1) else S
def first (h : Hd) (d : Int) : Nat → Nat → Option Nat
 | 0, _ => none
 | m + 1, i => if d < h.step i * h.cnt i then some i else first h d m (i + 1)
def lays (S : Sv) (n : List UInt8) (h : Hd) (now : Int) (p : Int × Int) : Sv × Bool :=
 if p.1 < 1 ∨ now < p.1 ∨ Fx.inR p.2 = false then (S, false)
 else match first h (now - p.1) h.l.length 0 with
  | none => (S, false)
  | some i => if Sl.al p.1 (h.step i) = 0 then (S, false) else (climb n h p.1 (h.l.length - 1 - i) (write S n h i p.1 p.2) i, true)
def layAll (n : List UInt8) (h : Hd) (now : Int) : List (Int × Int) → Sv → Int → Sv × Int
 | [], S, c => (S, c)
 | p :: l, S, c => layAll n h now l (lays S n h now p).1 (if (lays S n h now p).2 = true then c + 1 else c)
def time (now : Int) : Bool := decide (1 ≤ now ∧ now ≤ 4294967295)
def update (S : Sv) (n : List UInt8) (now : Int) (l : List (Int × Int)) : Sv × Int × Int :=
 let R := info S.now n
 if R.2 ≠ 0 then (S, 0, R.2) else if time now = false then (S, 0, 1)
 else
  let U := layAll n R.1 now l S 0
  ({ U.1 with was := U.1.now, l := [] }, U.2, 0)
def ring (fs : List Fl) (n : List UInt8) (i : Int) : List (Int × Int) × Int :=
 let R := info fs n
 if R.2 ≠ 0 then ([], R.2) else if i < 0 ∨ (R.1.l.length : Int) ≤ i then ([], 1)
 else ((List.range (R.1.cnt i.toNat).toNat).map fun (k : Nat) => pt (Vf.read fs n (R.1.offs i + 12 * (k : Int)) 12).1, 0)
structure Se where
 start : Int
 step : Int
 vals : List Vl
def clip (h : Hd) (now from_ : Int) : Int := max (max 0 from_) (now - h.span)
def fetch (fs : List Fl) (n : List UInt8) (now from_ until_ : Int) : Option Se × Int :=
 let R := info fs n
 if R.2 ≠ 0 then (none, R.2) else if time now = false then (none, 1)
 else if until_ < from_ ∨ now < from_ ∨ until_ < 0 ∨ until_ < now - R.1.span then (none, 7)
 else
  let f := clip R.1 now from_
  let u := min until_ now
  match first R.1 (now - f - 1) R.1.l.length 0 with
  | none => (none, 7)
  | some i =>
    let s := R.1.step i
    let a := Sl.al f s + s
    let e := if Sl.al u s + s ≤ a then a + s else Sl.al u s + s
    (some ⟨a, s, (List.range ((e - a) / s).toNat).map fun (k : Nat) => value fs n R.1 i (a + (k : Int) * s)⟩, 0)
end Wp
end
section
open Go.RowKit
open Me
theorem create_any {w : World} {G Gq : Nat → Prop} {fs : Nat} {lr : Option Nat} {S : Vf.Sv} {nv wv lv : Value} {ys : List Value} (h : Vf.At w G fs lr S nv wv lv ys) (n : List UInt8) (ps : List (List UInt8)) (pv : Value) (hp : Vf.Ps w Gq pv ps)
 (hl : S.now.length ≤ 1048576) (hll : S.l.length ≤ 1048576) (hu : Vf.used S.now ≤ 4294967296) (hr0 : 0 ≤ S.room) (hr1 : S.room ≤ 4294967296) (hpl : ps.length ≤ 1048576) (hpt : ps.flatten.length ≤ 4294967296) :
 Calls Tryz.prog 20 #[.pointer (some ⟨fs, 0, none⟩), .string ⟨n.toArray⟩, pv] w (Vf.Next w G fs lr (Vf.create S n ps.flatten)) := by
 have HRO := Lib.hid (rows_any ps pv Gq w hp hpl hpt)
 obtain ⟨Aq, cq, xq, rfl, _⟩ := hp
 have HFD : Hid (∀ W, Vf.At W G fs lr S nv wv lv ys → Calls Tryz.prog 54 #[nv, .string ⟨n.toArray⟩] W fun e w' => e = .returned (.int .i64 (Vf.ix S.now n)) ∧ W = w') := Lib.hid fun W hW => find_any S.now n nv G W hW.now hl
 have HIS := Lib.hid (is_any n)
 have HU : Hid (∀ W, Vf.At W G fs lr S nv wv lv ys → Calls Tryz.prog 55 #[.pointer (some ⟨fs, 0, none⟩)] W fun e w' => e = .returned (.int .i64 (Vf.used S.now : Int)) ∧ W = w') := Lib.hid fun W hW => used_any hW hl (by omega)
 have HD : Hid (∀ (W : World) (Gp : Nat → Prop) (bv : Value), Vf.At W G fs lr S nv wv lv ys → Bs W Gp bv ps.flatten → (∀ b, Gp b → b < W.heap.size ∧ b ≠ fs ∧ lr ≠ some b) → Calls Tryz.prog 56 #[.pointer (some ⟨fs, 0, none⟩), .agg #[.int .i64 1, .string ⟨n.toArray⟩, .int .i64 0, bv]] W (Vf.Done W G Gp fs lr S ⟨1, n, 0, ps.flatten⟩)) :=
  Lib.hid fun W Gp bv hW hb hGp => do_any hW ⟨1, n, 0, ps.flatten⟩ hb hGp hl hll (Lib.hid (fun h => by cases h)) (Lib.hid fun f hf => Nat.le_trans (Vf.used_mem hf) hu) (Nat.zero_le _)
 have HS : Hid (Vf.create S n ps.flatten = if Vf.is n = false then (S, 1) else if 0 ≤ Vf.ix S.now n then (S, 6) else if S.room - Vf.used S.now < ps.flatten.length then (S, 4) else (S.act ⟨1, n, 0, ps.flatten⟩, 0)) := Lib.hid rfl
 have H := Lib.hid h
 obtain ⟨A0, c00, xs0, hnv, _⟩ := h.now
 subst hnv
 have hfl := h.fsLt
 have HRW : Hid (∀ g, lr = some g → g < w.heap.size) := Lib.hid fun g hg => (h.own.lt g (h.row.trans hg)).2
 clear h
 obtain ⟨i1, i2⟩ := Vf.ix_bd S.now n
 cases hi : Vf.is n
 ·rw [hi] at HIS HS
  have HR : Hid (Vf.create S n ps.flatten = (S, 1)) := Lib.hid (by rw [HS.out]; rfl)
  clear HS HD HU HFD
  generalize ps.flatten = b at *
  go_enter Tryz.func20, Tryz.ntmps20
  go_wp2_with (first | (go_at_call 52; (with_reducible refine (HRO.out).mono ?_); rintro e w' ⟨bv, rfl, ⟨A1, cc1, rfl, hc1, hcm1, hrd1⟩, hb⟩; have HW := Lib.hid (H.out.below hb)) | (go_at_call 53; ((with_reducible refine (HIS.out _).mono ?_); rintro e w' ⟨rfl, rfl⟩)))
  go_ret
  exact Vf.Next.no HW.out hb HR.out
 ·rw [hi] at HIS HS
  by_cases hx : 0 ≤ Vf.ix S.now n
  ·have HR : Hid (Vf.create S n ps.flatten = (S, 6)) := Lib.hid (by rw [HS.out]; simp [hx])
   clear HS HD HU
   generalize ps.flatten = b at *
   generalize Vf.ix S.now n = i at *
   go_enter Tryz.func20, Tryz.ntmps20
   go_wp2_with (first | (go_at_call 52; (with_reducible refine (HRO.out).mono ?_); rintro e w' ⟨bv, rfl, ⟨A1, cc1, rfl, hc1, hcm1, hrd1⟩, hb⟩; have HW := Lib.hid (H.out.below hb); obtain ⟨d0, d1, d2, d3, df⟩ := HW.out.cells; clear df) | (go_at_call 53; ((with_reducible refine (HIS.out _).mono ?_); rintro e w' ⟨rfl, rfl⟩)) | (go_at_call 54; ((with_reducible refine (HFD.out _ HW.out).mono ?_); rintro e w' ⟨rfl, rfl⟩)))
   go_ret
   exact Vf.Next.no HW.out hb HR.out
  ·by_cases hm : S.room - Vf.used S.now < ps.flatten.length
   ·have HR : Hid (Vf.create S n ps.flatten = (S, 4)) := Lib.hid (by rw [HS.out, if_neg (by simp), if_neg hx, if_pos hm])
    clear HS HD
    generalize ps.flatten = b at *
    generalize Vf.ix S.now n = i at *
    generalize Vf.used S.now = u at *
    have hwr : IntKind.i64.wrap (S.room - (u : Int)) = S.room - (u : Int) := IntWalk.i64_in _ (by omega)
    go_enter Tryz.func20, Tryz.ntmps20
    go_wp2_with (first | (go_at_call 52; (with_reducible refine (HRO.out).mono ?_); rintro e w' ⟨bv, rfl, ⟨A1, cc1, rfl, hc1, hcm1, hrd1⟩, hb⟩; have HW := Lib.hid (H.out.below hb); obtain ⟨d0, d1, d2, d3, df⟩ := HW.out.cells; clear df) | (go_at_call 53; ((with_reducible refine (HIS.out _).mono ?_); rintro e w' ⟨rfl, rfl⟩)) | (go_at_call 54; ((with_reducible refine (HFD.out _ HW.out).mono ?_); rintro e w' ⟨rfl, rfl⟩)))
    go_region_with (go_at_call 55; refine (HU.out _ HW.out.drew).mono ?_; rintro e w2 ⟨rfl, rfl⟩)
    all_goals
     go_wp2_with fail
     go_ret
     exact Vf.Next.no HW.out.drew hb.drew HR.out
   ·have HR : Hid (Vf.create S n ps.flatten = (S.act ⟨1, n, 0, ps.flatten⟩, 0)) := Lib.hid (by rw [HS.out, if_neg (by simp), if_neg hx, if_neg hm])
    clear HS
    generalize ps.flatten = b at *
    generalize Vf.ix S.now n = i at *
    generalize Vf.used S.now = u at *
    have hwr : IntKind.i64.wrap (S.room - (u : Int)) = S.room - (u : Int) := IntWalk.i64_in _ (by omega)
    go_enter Tryz.func20, Tryz.ntmps20
    go_wp2_with (first | (go_at_call 52; (with_reducible refine (HRO.out).mono ?_); rintro e w' ⟨bv, rfl, ⟨A1, cc1, rfl, hc1, hcm1, hrd1⟩, hb⟩; have HW := Lib.hid (H.out.below hb); obtain ⟨d0, d1, d2, d3, df⟩ := HW.out.cells; clear df) | (go_at_call 53; ((with_reducible refine (HIS.out _).mono ?_); rintro e w' ⟨rfl, rfl⟩)) | (go_at_call 54; ((with_reducible refine (HFD.out _ HW.out).mono ?_); rintro e w' ⟨rfl, rfl⟩)))
    go_region_with (go_at_call 55; refine (HU.out _ HW.out.drew).mono ?_; rintro e w2 ⟨rfl, rfl⟩)
    all_goals
     have HDW := Lib.hid (HD.out w'.drew (fun i => w.heap.size ≤ i ∧ i < w'.heap.size) (.slice A1 b.length cc1) HW.out.drew ⟨A1, cc1, rfl, hc1, hcm1, (hrd1.mono (G' := fun i => w.heap.size ≤ i ∧ i < w'.heap.size) (fun i hi hg => ⟨hg, hi⟩)).keep (w' := w'.drew) (Nat.le_refl _) (fun _ _ _ => rfl)⟩ (fun i hi => ⟨hi.2, by omega, fun e => by have := HRW.out i e; omega⟩))
     go_wp2_with (go_at_call 56; (with_reducible refine (HDW.out).mono ?_); rintro e w' hd; obtain rfl := hd.1; have HDN := Lib.hid hd; clear hd)
     go_ret
     exact Vf.Next.done hb.drew (fun i hi => hi.1) HDN.out HR.out
end
section
open Go.RowKit
open Me Vf
namespace Wp
def RO (w : World) (V : Nat → Prop) (fs c : Nat) (S : Sv) : Prop :=
 ∃ G lr nv wv lv ys, At w G fs lr S nv wv lv ys ∧ Vf.Inv c S ∧ ∀ b, V b → b < w.heap.size ∧ ¬ G b ∧ b ≠ fs ∧ lr ≠ some b
theorem RO.below {w w' : World} {V : Nat → Prop} {fs c : Nat} {S : Sv} (h : RO w V fs c S) (b : Below w.heap.size w w') : RO w' V fs c S := by
 obtain ⟨G, lr, nv, wv, lv, ys, h1, h2, h3⟩ := h
 exact ⟨G, lr, nv, wv, lv, ys, h1.below b, h2, fun i hi => ⟨Nat.lt_of_lt_of_le (h3 i hi).1 b.size, (h3 i hi).2⟩⟩
theorem RO.add {w w' : World} {V V' : Nat → Prop} {fs c : Nat} {S : Sv} (h : RO w V fs c S) (b : Below w.heap.size w w') (hV : ∀ i, V' i → V i ∨ (w.heap.size ≤ i ∧ i < w'.heap.size)) : RO w' V' fs c S := by
 obtain ⟨G, lr, nv, wv, lv, ys, h1, h2, h3⟩ := h
 have hlr : ∀ g, lr = some g → g < w.heap.size := fun g hg => (h1.own.lt g (h1.row.trans hg)).2
 have hfs := h1.fsLt
 refine ⟨G, lr, nv, wv, lv, ys, h1.below b, h2, fun i hi => ?_⟩
 rcases hV i hi with hv | ⟨ha, hb⟩
 ·exact ⟨Nat.lt_of_lt_of_le (h3 i hv).1 b.size, (h3 i hv).2⟩
 ·exact ⟨hb, fun hg => by have := h1.lt i hg; omega, fun e => by omega, fun e => by have := hlr i e; omega⟩
theorem RO.more {w : World} {V V' : Nat → Prop} {fs c c' : Nat} {S : Sv} (h : RO w V fs c S) (hc : c ≤ c') (hV : ∀ i, V' i → V i) : RO w V' fs c' S := by
 obtain ⟨G, lr, nv, wv, lv, ys, h1, h2, h3⟩ := h
 exact ⟨G, lr, nv, wv, lv, ys, h1, h2.mono hc, fun i hi => h3 i (hV i hi)⟩
theorem RO.of_next {w w' : World} {V G : Nat → Prop} {fs c' : Nat} {lr : Option Nat} {S : Sv} {R : Sv × Int} {nv wv lv : Value} {ys : List Value} {e : Ending} (h1 : At w G fs lr S nv wv lv ys) (h3 : ∀ b, V b → b < w.heap.size ∧ ¬ G b ∧ b ≠ fs ∧ lr ≠ some b)
 (hi : Vf.Inv c' R.1) (hn : Vf.Next w G fs lr R e w') : e = .returned (.int .i64 R.2) ∧ RO w' V fs c' R.1 ∧ Kp (fun b => ¬ V b) w w' := by
 obtain ⟨rfl, G', lr', nv', wv', lv', ys', q1, q2, q3, q4⟩ := hn
 refine ⟨rfl, ⟨G', lr', nv', wv', lv', ys', q1, hi, fun b hb => ⟨Nat.lt_of_lt_of_le (h3 b hb).1 q2.size, fun hg => ?_, (h3 b hb).2.2.1, fun e => ?_⟩⟩, q2.mono fun b _ ho hv => ?_⟩
 ·rcases q3 b hg with h | h
  ·exact (h3 b hb).2.1 h
  ·have := (h3 b hb).1; omega
 ·rcases q4 b e with h | h
  ·exact (h3 b hb).2.2.2 h
  ·have := (h3 b hb).1; omega
 ·rcases ho with rfl | e
  ·exact (h3 b hv).2.2.1 rfl
  ·exact (h3 b hv).2.2.2 e
end Wp
open Wp
section
variable {w : World} {V : Nat → Prop} {fs c : Nat} {S : Sv}
theorem rosize (h : RO w V fs c S) (hc : c ≤ 1000000) (n : List UInt8) :
 Calls Tryz.prog 24 #[.pointer (some ⟨fs, 0, none⟩), .string ⟨n.toArray⟩] w fun e w' => e = .returned (.tuple #[.int .i64 (Vf.size S.now n).1, .int .i64 (Vf.size S.now n).2]) ∧ w = w' := by
 obtain ⟨G, lr, nv, wv, lv, ys, h1, h2, h3⟩ := h
 have := h2.last
 exact size_any h1 n (by omega)
theorem roread (h : RO w V fs c S) (hc : c ≤ 1000000) (n : List UInt8) (t m : Int) :
 Calls Tryz.prog 25 #[.pointer (some ⟨fs, 0, none⟩), .string ⟨n.toArray⟩, .int .i64 t, .int .i64 m] w (Vf.Handed w (Vf.read S.now n t m)) := by
 obtain ⟨G, lr, nv, wv, lv, ys, h1, h2, h3⟩ := h
 have := h2.last
 have := h2.room1
 exact read_any h1 n t m (by omega) (by omega)
theorem rowrite (h : RO w V fs c S) (hc : c ≤ 1000000) (n : List UInt8) (t : Int) (ps : List (List UInt8)) (pv : Value) {Gq : Nat → Prop} (hp : Vf.Ps w Gq pv ps) (hpl : ps.length ≤ 1048576) (hpt : ps.flatten.length ≤ 1048576) :
 Calls Tryz.prog 112 #[.pointer (some ⟨fs, 0, none⟩), .string ⟨n.toArray⟩, .int .i64 t, pv] w fun e w' => e = .returned (.int .i64 (Vf.write S n t ps.flatten).2) ∧ RO w' V fs (c + 1) (Vf.write S n t ps.flatten).1 ∧ Kp (fun b => ¬ V b) w w' := by
 obtain ⟨G, lr, nv, wv, lv, ys, h1, h2, h3⟩ := h
 have i1 := h2.last
 have i2 := h2.room1
 have i3 := h2.len
 exact (write_any h1 n t ps pv hp (by omega) (by omega) (by omega) hpl (by omega)).mono fun e w' hn => RO.of_next h1 h3 (h2.write _ _ _) hn
theorem rocreate (h : RO w V fs c S) (hc : c ≤ 1000000) (n : List UInt8) (ps : List (List UInt8)) (pv : Value) {Gq : Nat → Prop} (hp : Vf.Ps w Gq pv ps) (hpl : ps.length ≤ 1048576) (hpt : ps.flatten.length ≤ 4194304) :
 Calls Tryz.prog 20 #[.pointer (some ⟨fs, 0, none⟩), .string ⟨n.toArray⟩, pv] w fun e w' => e = .returned (.int .i64 (Vf.create S n ps.flatten).2) ∧ RO w' V fs (c + 1) (Vf.create S n ps.flatten).1 ∧ Kp (fun b => ¬ V b) w w' := by
 obtain ⟨G, lr, nv, wv, lv, ys, h1, h2, h3⟩ := h
 have i1 := h2.last
 have i0 := h2.room0
 have i2 := h2.room1
 have i3 := h2.len
 exact (create_any h1 n ps pv hp (by omega) (by omega) (by omega) i0 (by omega) hpl (by omega)).mono fun e w' hn => RO.of_next h1 h3 (h2.create _ _) hn
theorem rosync (h : RO w V fs c S) :
 Calls Tryz.prog 35 #[.pointer (some ⟨fs, 0, none⟩)] w fun e w' => e = .returned (.tuple #[]) ∧ RO w' V fs c { S with was := S.now, l := [] } ∧ Kp (fun b => ¬ V b) w w' := by
 obtain ⟨G, lr, nv, wv, lv, ys, h1, h2, h3⟩ := h
 refine (sync_any h1).mono ?_
 rintro e w2 ⟨rfl, r1, r2⟩
 exact ⟨rfl, ⟨G, none, _, _, _, _, r1, h2.sync, fun b hb => ⟨Nat.lt_of_lt_of_le (h3 b hb).1 r2.size, (h3 b hb).2.1, (h3 b hb).2.2.1, fun e => nomatch e⟩⟩, r2.mono fun b _ ho hv => (h3 b hv).2.2.1 ho⟩
end
end
section
open Go.RowKit Go.Sort
open Wh (At)
theorem side_any (s c t d : Int) (h1 : 1 ≤ s) (h2 : s ≤ 16777216) (h3 : 1 ≤ c) (h4 : c ≤ 16777216) (h5 : 1 ≤ t) (h6 : t ≤ 16777216) (h7 : 1 ≤ d) (h8 : d ≤ 16777216) (w : World) :
 Calls Tryz.prog 29 #[.agg #[.int .i64 s, .int .i64 c], .agg #[.int .i64 t, .int .i64 d]] w fun e w' => e = .returned (.bool (Wh.fol (s, c) (t, d))) ∧ Below w.heap.size w w' := by
 obtain ⟨kc, kf⟩ := kgrown ((w.alloc (.cells #[.int .i64 s, .int .i64 c] 69)).alloc (.cells #[.int .i64 t, .int .i64 d] 69))
 have bs := Wh.mul_bd h1 h2 h3 h4
 have bt := Wh.mul_bd h5 h6 h7 h8
 have hw1 : IntKind.i64.wrap (s * c) = s * c := IntWalk.i64_in _ (by omega)
 have hw2 : IntKind.i64.wrap (t * d) = t * d := IntWalk.i64_in _ (by omega)
 have hm : t.tmod s = t % s := Int.tmod_eq_emod_of_nonneg (by omega)
 have hd : t.tdiv s = t / s := Int.tdiv_eq_ediv_of_nonneg (by omega)
 have hz : (s == 0) = false := by simp; omega
 have hdb : 0 ≤ t / s ∧ t / s ≤ t := ⟨Int.ediv_nonneg (by omega) (by omega), Int.ediv_le_self _ (by omega)⟩
 have hdw : IntKind.i64.wrap (t / s) = t / s := IntWalk.i64_in _ (by omega)
 by_cases g1 : t ≤ s
 ·have H := Lib.hid (Wh.fol_1 (a := (s, c)) (b := (t, d)) g1)
  have e1 : decide (s < t) = false := decide_eq_false (by omega)
  go_enter Tryz.func29, Tryz.ntmps29
  go_wp2_with fail
  refine wp_region_quiet_below (by kernel_rfl) (by kernel_rfl) ?_
  repeat (go_big_quiet_step (fail))
  refine wpQuiet_nil ?_
  intro _ hw'
  obtain ⟨⟨dq, osq⟩, hw''⟩ := hw'
  subst hw''
  go_wp2
  go_ret
  exact ⟨by rw [H.out]; rfl, Bq⟩
 ·have e1 : decide (s < t) = true := decide_eq_true (by omega)
  by_cases g2 : t % s = 0
  ·have e2 : (t % s == 0) = true := by simp [g2]
   by_cases g3 : t * d ≤ s * c
   ·have H := Lib.hid (Wh.fol_3 (a := (s, c)) (b := (t, d)) g3)
    have e3 : decide (s * c < t * d) = false := decide_eq_false (by omega)
    clear g2
    go_enter Tryz.func29, Tryz.ntmps29
    go_wp2_with fail
    refine wp_region_quiet_below (by kernel_rfl) (by kernel_rfl) ?_
    repeat (go_big_quiet_step (fail))
    refine wpQuiet_nil ?_
    intro _ hw'
    obtain ⟨⟨dq, osq⟩, hw''⟩ := hw'
    subst hw''
    go_wp2
    go_ret
    exact ⟨by rw [H.out]; rfl, Bq⟩
   ·have H := Lib.hid (Wh.fol_4 (a := (s, c)) (b := (t, d)) (by show s < t; omega) g2 (by show s * c < t * d; omega))
    have e3 : decide (s * c < t * d) = true := decide_eq_true (by omega)
    clear g2
    go_enter Tryz.func29, Tryz.ntmps29
    go_wp2_with fail
    refine wp_region_quiet_below (by kernel_rfl) (by kernel_rfl) ?_
    repeat (go_big_quiet_step (fail))
    refine wpQuiet_nil ?_
    intro _ hw'
    obtain ⟨⟨dq, osq⟩, hw''⟩ := hw'
    subst hw''
    go_wp2
    go_ret
    exact ⟨by rw [H.out]; rfl, Bq⟩
  ·have H := Lib.hid (Wh.fol_2 (a := (s, c)) (b := (t, d)) g2)
   have e2 : (t % s == 0) = false := by simp [g2]
   clear g2
   go_enter Tryz.func29, Tryz.ntmps29
   go_wp2_with fail
   refine wp_region_quiet_below (by kernel_rfl) (by kernel_rfl) ?_
   repeat (go_big_quiet_step (fail))
   refine wpQuiet_nil ?_
   intro _ hw'
   obtain ⟨⟨dq, osq⟩, hw''⟩ := hw'
   subst hw''
   go_wp2
   go_ret
   exact ⟨by rw [H.out]; rfl, Bq⟩
end
section
open Go.RowKit Go.Sort
open Wh (At)
theorem Wh.av_run {l : List (Int × Int)} {k : Nat} (hk : k ≤ l.length) (h : 1048576 < Wh.run l k)   : Wh.av l = false := by
 cases ha : Wh.alls l l.length
 ·unfold Wh.av; simp [ha]
 ·have := Wh.run_le (Wh.alls_cnt ha) k hk
  exact Wh.av_big (by omega)
theorem lowBox {w W : World} {o : Obj} (h : Below (w.heap.size + 1) (w.alloc o) W) : Below w.heap.size w W := ((Below.refl _ _).alloc (Nat.le_refl _) _).trans (h.mono (Nat.le_succ _))
theorem may_some (ag xf : Int) (g1 : 1 ≤ ag) (g2 : ag ≤ 5) (x1 : 0 ≤ xf) (x2 : xf ≤ 1000000) (l : List (Int × Int)) (b off cap : Nat) (w : World) (hA : Ars w b off l) (hcap : l.length ≤ cap) (h1 : 1 ≤ l.length) (h8 : l.length ≤ 8) :
 Calls Tryz.prog 6 #[.agg #[.int .i64 ag, .int .i64 xf, .slice (some ⟨b, off, none⟩) l.length cap]] w fun e w' => e = .returned (.bool (Wh.av l)) ∧ Below w.heap.size w w' := by
 have HF : Hid (∀ k, k < l.length → Wh.stp l k = false → Wh.av l = false) := Lib.hid fun k hk h => Wh.av_stp hk h
 have HA := Lib.hid hA
 have H1 : Hid (∀ k, Wh.num (At l k).1 = false → Wh.stp l k = false) := Lib.hid fun k => Wh.stp_f1
 have H2 : Hid (∀ k, Wh.num (At l k).2 = false → Wh.stp l k = false) := Lib.hid fun k => Wh.stp_f2
 have H3 : Hid (∀ k, 0 < k → Wh.fol (At l (k - 1)) (At l k) = false → Wh.stp l k = false) := Lib.hid fun k => Wh.stp_f3
 have HT : Hid (∀ k, Wh.alls l k = true → Wh.num (At l k).1 = true → Wh.num (At l k).2 = true → (k = 0 ∨ Wh.fol (At l (k - 1)) (At l k) = true) → Wh.alls l (k + 1) = true) := Lib.hid fun k h h1 h2 h3 => Wh.alls_succ h (Wh.stp_t h1 h2 h3)
 have HB : Hid (∀ k m, k < m → Wh.alls l m = true → (1 ≤ (At l k).1 ∧ (At l k).1 ≤ 16777216) ∧ (1 ≤ (At l k).2 ∧ (At l k).2 ≤ 16777216)) := Lib.hid fun k m => Wh.alls_num
 have HU : Hid (∀ k, Wh.run l (k + 1) = Wh.run l k + 12 + 12 * (At l k).2) := Lib.hid fun k => Wh.run_succ l k
 have HG : Hid (∀ k, k ≤ l.length → 1048576 < Wh.run l k → Wh.av l = false) := Lib.hid fun k hk h => Wh.av_run hk h
 have HZ : Hid (Wh.run l 0 = 16) := Lib.hid (Wh.run_zero l)
 have HN : Hid (∀ k, 16 ≤ Wh.run l k ∧ Wh.run l k ≤ 1048576 → 16 ≤ Wh.run l k ∧ Wh.run l k ≤ 1048576) := Lib.hid fun _ h => h
 clear hA
 go_enter Tryz.func6, Tryz.ntmps6
 go_wp2
 go_loopw [3, 4] (fun n i wr => ∃ j : Nat, j ≤ l.length ∧ i = .int .i64 j ∧ n = .int .i64 (Wh.run l j) ∧ Hid (Wh.alls l j = true) ∧ (16 ≤ Wh.run l j ∧ Wh.run l j ≤ 1048576) ∧ Below (w.heap.size + 1) (w.alloc (.cells #[.int .i64 ag, .int .i64 xf, .slice (some ⟨b, off, none⟩) l.length cap] 24)) wr) (fun _ i _ => l.length - (intOf i).toNat)
 case atStart => exact ⟨0, Nat.zero_le _, rfl, by rw [HZ.out], Lib.hid rfl, by rw [HZ.out]; omega, Below.refl _ _⟩
 case round =>
  obtain ⟨j, hj, rfl, rfl, hal, hrn, hR⟩ := hrel
  have hx2 : wr.cell? ⟨w.heap.size, 2, none⟩ = some (.slice (some ⟨b, off, none⟩) l.length cap) := (hR.cell (p := ⟨w.heap.size, 2, none⟩) (Nat.lt_succ_self _)).trans (by simp [go_sem])
  have hsz : w.heap.size < wr.heap.size := by have := hR.size; simp at this; omega
  have hAr := HA.out.below (lowBox hR)
  have hbl := hAr.lt
  have HR := Lib.hid hR
  clear hR HN
  by_cases hlt : j < l.length
  ·have c0 := hAr.st j hlt
   have c1 := hAr.ct j hlt
   have HJ := Lib.hid (HF.out j hlt)
   have HJ1 := Lib.hid (H1.out j)
   have HJ2 := Lib.hid (H2.out j)
   have HJ3 := Lib.hid (H3.out j)
   have HJT := Lib.hid (HT.out j hal.out)
   have HJU := Lib.hid (HU.out j)
   have HJG : Hid (1048576 < Wh.run l j + 12 + 12 * (At l j).2 → Wh.av l = false) := Lib.hid fun h => HG.out (j + 1) (by omega) (by rw [HU.out]; exact h)
   have hp : (∀ m, j = m + 1 → (1 ≤ (At l m).1 ∧ (At l m).1 ≤ 16777216) ∧ (1 ≤ (At l m).2 ∧ (At l m).2 ≤ 16777216)) := fun m e => HB.out m j (by omega) hal.out
   have HP := Lib.hid hp
   have HPC : Hid (∀ m, j = m + 1 → wr.cell? ⟨b, off + m * 2, none⟩ = some (.int .i64 (At l m).1) ∧ wr.cell? ⟨b, off + m * 2 + 1, none⟩ = some (.int .i64 (At l m).2)) := Lib.hid fun m e => ⟨hAr.st m (by omega), hAr.ct m (by omega)⟩
   clear hp hAr HF HA H1 H2 H3 HT HB HU HG HZ hal
   by_cases k1 : (At l j).1 < 1
   ·have HQ := Lib.hid (HJ.out (HJ1.out (by unfold Wh.num; simp; omega)))
    have d1 : decide ((At l j).1 < 1) = true := decide_eq_true k1
    clear HJ HJ1 HJ2 HJ3 HJT HJU HJG HP HPC
    generalize At l j = a at *
    obtain ⟨s, c⟩ := a
    dsimp only at *
    go_wp2_with fail
    obtain ⟨kc, kf⟩ := kgrown (wr.alloc (.cells #[.int .i64 s, .int .i64 c] 69))
    refine wp_region_quiet_below (by kernel_rfl) (by kernel_rfl) ?_
    repeat (go_big_quiet_step (fail))
    refine wpQuiet_nil ?_
    intro _ hw'
    obtain ⟨⟨dq, osq⟩, hw''⟩ := hw'
    subst hw''
    go_wp2
    go_ret
    exact ⟨by rw [HQ.out]; rfl, (HR.out.alloc (by have := HR.out.size; simp at this; omega) _).trans ((below_regrown _ _ _).mono (by have := HR.out.size; simp at this ⊢; omega)) |> lowBox⟩
   have d1 : decide ((At l j).1 < 1) = false := decide_eq_false k1
   by_cases k2 : 16777216 < (At l j).1
   ·have HQ := Lib.hid (HJ.out (HJ1.out (by unfold Wh.num; simp; omega)))
    have d2 : decide (16777216 < (At l j).1) = true := decide_eq_true k2
    clear HJ HJ1 HJ2 HJ3 HJT HJU HJG HP HPC
    generalize At l j = a at *
    obtain ⟨s, c⟩ := a
    dsimp only at *
    go_wp2_with fail
    obtain ⟨kc, kf⟩ := kgrown (wr.alloc (.cells #[.int .i64 s, .int .i64 c] 69))
    refine wp_region_quiet_below (by kernel_rfl) (by kernel_rfl) ?_
    repeat (go_big_quiet_step (fail))
    refine wpQuiet_nil ?_
    intro _ hw'
    obtain ⟨⟨dq, osq⟩, hw''⟩ := hw'
    subst hw''
    go_wp2
    go_ret
    exact ⟨by rw [HQ.out]; rfl, (HR.out.alloc (by have := HR.out.size; simp at this; omega) _).trans ((below_regrown _ _ _).mono (by have := HR.out.size; simp at this ⊢; omega)) |> lowBox⟩
   have d2 : decide (16777216 < (At l j).1) = false := decide_eq_false k2
   by_cases k3 : (At l j).2 < 1
   ·have HQ := Lib.hid (HJ.out (HJ2.out (by unfold Wh.num; simp; omega)))
    have d3 : decide ((At l j).2 < 1) = true := decide_eq_true k3
    clear HJ HJ1 HJ2 HJ3 HJT HJU HJG HP HPC
    generalize At l j = a at *
    obtain ⟨s, c⟩ := a
    dsimp only at *
    go_wp2_with fail
    obtain ⟨kc, kf⟩ := kgrown (wr.alloc (.cells #[.int .i64 s, .int .i64 c] 69))
    refine wp_region_quiet_below (by kernel_rfl) (by kernel_rfl) ?_
    repeat (go_big_quiet_step (fail))
    refine wpQuiet_nil ?_
    intro _ hw'
    obtain ⟨⟨dq, osq⟩, hw''⟩ := hw'
    subst hw''
    go_wp2
    go_ret
    exact ⟨by rw [HQ.out]; rfl, (HR.out.alloc (by have := HR.out.size; simp at this; omega) _).trans ((below_regrown _ _ _).mono (by have := HR.out.size; simp at this ⊢; omega)) |> lowBox⟩
   have d3 : decide ((At l j).2 < 1) = false := decide_eq_false k3
   by_cases k4 : 16777216 < (At l j).2
   ·have HQ := Lib.hid (HJ.out (HJ2.out (by unfold Wh.num; simp; omega)))
    have d4 : decide (16777216 < (At l j).2) = true := decide_eq_true k4
    clear HJ HJ1 HJ2 HJ3 HJT HJU HJG HP HPC
    generalize At l j = a at *
    obtain ⟨s, c⟩ := a
    dsimp only at *
    go_wp2_with fail
    obtain ⟨kc, kf⟩ := kgrown (wr.alloc (.cells #[.int .i64 s, .int .i64 c] 69))
    refine wp_region_quiet_below (by kernel_rfl) (by kernel_rfl) ?_
    repeat (go_big_quiet_step (fail))
    refine wpQuiet_nil ?_
    intro _ hw'
    obtain ⟨⟨dq, osq⟩, hw''⟩ := hw'
    subst hw''
    go_wp2
    go_ret
    exact ⟨by rw [HQ.out]; rfl, (HR.out.alloc (by have := HR.out.size; simp at this; omega) _).trans ((below_regrown _ _ _).mono (by have := HR.out.size; simp at this ⊢; omega)) |> lowBox⟩
   have d4 : decide (16777216 < (At l j).2) = false := decide_eq_false k4
   have q1 : 1 ≤ (At l j).1 := by omega
   have q2 : (At l j).1 ≤ 16777216 := by omega
   have q3 : 1 ≤ (At l j).2 := by omega
   have q4 : (At l j).2 ≤ 16777216 := by omega
   have HJT := Lib.hid (HJT.out (Wh.num_t q1 q2) (Wh.num_t q3 q4))
   clear k1 k2 k3 k4
   cases j with
   | zero =>
     have HQ := Lib.hid (HJT.out (.inl rfl))
     simp only [Nat.zero_mul, Nat.add_zero] at c0 c1
     clear HJ HJ1 HJ2 HJ3 HJT HP HPC
     generalize Wh.run l 0 = q at *
     generalize At l 0 = a at *
     obtain ⟨s, c⟩ := a
     dsimp only at *
     by_cases k5 : 1048576 < q + 12 + 12 * c
     ·have HQ := Lib.hid (HJG.out k5)
      clear HJG
      go_wp2_with fail
      obtain ⟨kc, kf⟩ := kgrown (wr.alloc (.cells #[.int .i64 s, .int .i64 c] 69))
      refine wp_region_quiet_below (by kernel_rfl) (by kernel_rfl) ?_
      repeat (go_big_quiet_step (fail))
      refine wpQuiet_nil ?_
      intro _ hw'
      obtain ⟨⟨dq, osq⟩, hw''⟩ := hw'
      subst hw''
      go_wp2
      go_ret
      exact ⟨by rw [HQ.out]; rfl, lowBox ((HR.out.alloc (by have := HR.out.size; simp at this; omega) _).trans ((below_regrown _ _ _).mono (by have := HR.out.size; simp at this ⊢; omega)))⟩
     ·clear HJG
      go_wp2_with fail
      obtain ⟨kc, kf⟩ := kgrown (wr.alloc (.cells #[.int .i64 s, .int .i64 c] 69))
      refine wp_region_quiet_below (by kernel_rfl) (by kernel_rfl) ?_
      repeat (go_big_quiet_step (fail))
      refine wpQuiet_nil ?_
      intro _ hw'
      obtain ⟨⟨dq, osq⟩, hw''⟩ := hw'
      subst hw''
      go_wp2
      go_roundw
      case rel => exact ⟨1, by omega, by go_num, by rw [HJU.out], HQ, by rw [HJU.out]; omega, (HR.out.alloc (by have := HR.out.size; simp at this; omega) _).trans ((below_regrown _ _ _).mono (by have := HR.out.size; simp at this ⊢; omega))⟩
      case measure => simp [intOf]; omega
   | succ m =>
     obtain ⟨⟨p1, p2⟩, p3, p4⟩ := HP.out m rfl
     obtain ⟨e0, e1⟩ := HPC.out m rfl
     have HK3 : Hid (Wh.fol (At l m) (At l (m + 1)) = false → Wh.av l = false) := Lib.hid fun h => HJ.out (HJ3.out (by omega) h)
     have HKT : Hid (Wh.fol (At l m) (At l (m + 1)) = true → Wh.alls l (m + 1 + 1) = true) := Lib.hid fun h => HJT.out (.inr h)
     have hg : decide ((0 : Int) < (m : Int) + 1) = true := decide_eq_true (by omega)
     have HFO := Lib.hid (side_any (At l m).1 (At l m).2 (At l (m + 1)).1 (At l (m + 1)).2 p1 p2 p3 p4 q1 q2 q3 q4)
     have hml : m + 1 ≤ l.length := by omega
     clear HJ HJ1 HJ2 HJ3 HJT HP HPC
     generalize Wh.run l (m + 1) = q at *
     generalize At l (m + 1) = a at *
     generalize At l m = a0 at *
     obtain ⟨s, c⟩ := a
     obtain ⟨s0, cc⟩ := a0
     dsimp only at *
     cases hfo : Wh.fol (s0, cc) (s, c)
     ·have HQ := Lib.hid (HK3.out hfo)
      clear HK3 HKT
      go_wp2_with fail
      obtain ⟨kc, kf⟩ := kgrown (wr.alloc (.cells #[.int .i64 s, .int .i64 c] 69))
      refine wp_region_quiet_below (by kernel_rfl) (by kernel_rfl) ?_
      repeat (go_big_quiet_step ((go_at_call 29; exact Calls.regrown_of (HFO.out _))))
      refine wpQuiet_nil ?_
      intro _ hw'
      obtain ⟨⟨dq, osq⟩, hw''⟩ := hw'
      subst hw''
      go_wp2
      go_ret
      exact ⟨by rw [HQ.out]; rfl, lowBox ((HR.out.alloc (by have := HR.out.size; simp at this; omega) _).trans ((below_regrown _ _ _).mono (by have := HR.out.size; simp at this ⊢; omega)))⟩
     ·have HQ := Lib.hid (HKT.out hfo)
      clear HK3 HKT
      by_cases k5 : 1048576 < q + 12 + 12 * c
      ·have HQ := Lib.hid (HJG.out k5)
       clear HJG
       go_wp2_with fail
       obtain ⟨kc, kf⟩ := kgrown (wr.alloc (.cells #[.int .i64 s, .int .i64 c] 69))
       refine wp_region_quiet_below (by kernel_rfl) (by kernel_rfl) ?_
       repeat (go_big_quiet_step ((go_at_call 29; exact Calls.regrown_of (HFO.out _))))
       refine wpQuiet_nil ?_
       intro _ hw'
       obtain ⟨⟨dq, osq⟩, hw''⟩ := hw'
       subst hw''
       go_wp2
       go_ret
       exact ⟨by rw [HQ.out]; rfl, lowBox ((HR.out.alloc (by have := HR.out.size; simp at this; omega) _).trans ((below_regrown _ _ _).mono (by have := HR.out.size; simp at this ⊢; omega)))⟩
      ·clear HJG
       go_wp2_with fail
       obtain ⟨kc, kf⟩ := kgrown (wr.alloc (.cells #[.int .i64 s, .int .i64 c] 69))
       refine wp_region_quiet_below (by kernel_rfl) (by kernel_rfl) ?_
       repeat (go_big_quiet_step ((go_at_call 29; exact Calls.regrown_of (HFO.out _))))
       refine wpQuiet_nil ?_
       intro _ hw'
       obtain ⟨⟨dq, osq⟩, hw''⟩ := hw'
       subst hw''
       go_wp2
       go_roundw
       case rel => exact ⟨m + 1 + 1, by omega, by go_num, by rw [HJU.out], HQ, by rw [HJU.out]; omega, (HR.out.alloc (by have := HR.out.size; simp at this; omega) _).trans ((below_regrown _ _ _).mono (by have := HR.out.size; simp at this ⊢; omega))⟩
       case measure => simp [intOf]; omega
  ·obtain rfl : j = l.length := by omega
   obtain ⟨k, hk⟩ : ∃ k, l.length = k + 1 := ⟨l.length - 1, by omega⟩
   have c0 := hAr.st k (by omega)
   have c1 := hAr.ct k (by omega)
   obtain ⟨⟨p1, p2⟩, p3, p4⟩ := HB.out k l.length (by omega) hal.out
   have HQ : Hid (Wh.av l = decide ((At l k).1 * (At l k).2 ≤ 4294967295)) := Lib.hid (by
    have := Wh.av_end h1 h8 hal.out hrn.2
    rw [this]
    unfold Wh.lsp
    rw [hk]
    rfl)
   have bm := Wh.mul_bd p1 p2 p3 p4
   have hw : IntKind.i64.wrap ((At l k).1 * (At l k).2) = (At l k).1 * (At l k).2 := IntWalk.i64_in _ (by omega)
   clear hAr HF HA H1 H2 H3 HT HB HU HG HZ hal
   generalize hls : l.length = n at *
   have HLS := Lib.hid hls
   clear hls
   subst hk
   generalize At l k = a at *
   obtain ⟨s, c⟩ := a
   dsimp only at *
   generalize hmu : s * c = mu at *
   have HMU := Lib.hid hmu
   clear hmu
   have hw2 : IntKind.i64.wrap (s * c) = mu := by rw [HMU.out]; exact hw
   go_wp2
   go_ret
   exact ⟨by rw [HQ.out]; rfl, lowBox (HR.out.alloc (by have := HR.out.size; simp at this; omega) _)⟩
end
section
open Go.RowKit Go.Sort
open Wh (At)
theorem may_any (ag xf : Int) (l : List (Int × Int)) (A : Option Addr) (cap : Nat) (w : World) (h : Row w A l cap) :
 Calls Tryz.prog 6 #[.agg #[.int .i64 ag, .int .i64 xf, .slice A l.length cap]] w fun e w' => e = .returned (.bool (Wh.val ag xf l)) ∧ Below w.heap.size w w' := by
 have HX : Hid (ag < 1 ∨ 5 < ag ∨ xf < 0 ∨ 1000000 < xf ∨ Wh.av l = false → Wh.val ag xf l = false) := Lib.hid Wh.val_head
 by_cases k1 : ag < 1
 ·have HQ := Lib.hid (HX.out (.inl k1))
  go_enter Tryz.func6, Tryz.ntmps6
  go_wp2
  go_ret
  exact ⟨by rw [HQ.out]; rfl, Bq⟩
 by_cases k2 : 5 < ag
 ·have HQ := Lib.hid (HX.out (.inr (.inl k2)))
  go_enter Tryz.func6, Tryz.ntmps6
  go_wp2
  go_ret
  exact ⟨by rw [HQ.out]; rfl, Bq⟩
 by_cases k3 : xf < 0
 ·have HQ := Lib.hid (HX.out (.inr (.inr (.inl k3))))
  go_enter Tryz.func6, Tryz.ntmps6
  go_wp2
  go_ret
  exact ⟨by rw [HQ.out]; rfl, Bq⟩
 by_cases k4 : 1000000 < xf
 ·have HQ := Lib.hid (HX.out (.inr (.inr (.inr (.inl k4)))))
  go_enter Tryz.func6, Tryz.ntmps6
  go_wp2
  go_ret
  exact ⟨by rw [HQ.out]; rfl, Bq⟩
 by_cases k5 : l.length = 0
 ·have HQ := Lib.hid (HX.out (.inr (.inr (.inr (.inr (Wh.av_nil k5))))))
  rw [k5]
  clear k5
  go_enter Tryz.func6, Tryz.ntmps6
  go_wp2
  go_ret
  exact ⟨by rw [HQ.out]; rfl, Bq⟩
 by_cases k6 : 8 < l.length
 ·have HQ := Lib.hid (HX.out (.inr (.inr (.inr (.inr (Wh.av_long k6))))))
  go_enter Tryz.func6, Tryz.ntmps6
  go_wp2
  go_ret
  exact ⟨by rw [HQ.out]; rfl, Bq⟩
 obtain ⟨b, off, rfl, hA⟩ := h.2 (by omega)
 rw [Wh.val_av (by omega) (by omega) (by omega) (by omega)]
 exact may_some ag xf (by omega) (by omega) (by omega) (by omega) l b off cap w hA h.1 (by omega) (by omega)
theorem rsize_any (ag xf : Int) (l : List (Int × Int)) (A : Option Addr) (cap : Nat) (w : World) (h : Row w A l cap) :
 Calls Tryz.prog 30 #[.agg #[.int .i64 ag, .int .i64 xf, .slice A l.length cap]] w fun e w' => e = .returned (.int .i64 (Wh.size ag xf l)) ∧ Below w.heap.size w w' := by
 have HV : Hid (∀ W, Below w.heap.size w W → Calls Tryz.prog 6 #[.agg #[.int .i64 ag, .int .i64 xf, .slice A l.length cap]] W fun e w' => e = .returned (.bool (Wh.val ag xf l)) ∧ Below W.heap.size W w') := Lib.hid fun W hb => may_any ag xf l A cap W (h.below hb)
 cases hv : Wh.val ag xf l
 ·rw [hv] at HV
  have HQ : Hid (Wh.size ag xf l = 0) := Lib.hid (by unfold Wh.size; rw [hv]; rfl)
  clear hv h
  go_enter Tryz.func30, Tryz.ntmps30
  go_wp2_with (go_at_call 6; go_must (refine (HV.out _ ((Below.refl _ _).alloc (Nat.le_refl _) _)).mono ?_; rintro e w' ⟨rfl, hb⟩; obtain ⟨hc, hf⟩ := bcell hb; (try have hz0 : w.heap.size < w'.heap.size := Bz hb); (try have hz1 : w.heap.size + 1 < w'.heap.size := Bz hb); (try have hz2 : w.heap.size + 1 + 1 < w'.heap.size := Bz hb); have hz := hb.size; (try simp at hz)))
  go_ret
  exact ⟨by rw [HQ.out]; rfl, Bq⟩
 ·rw [hv] at HV
  have HQ : Hid (Wh.size ag xf l = Wh.run l l.length) := Lib.hid (by unfold Wh.size; rw [hv]; rfl)
  obtain ⟨b, off, rfl, hA, hcap, a1, a2, a3, a4, _⟩ := row_val h hv
  have HA := Lib.hid hA
  have HB : Hid (∀ i, i ≤ l.length → 16 ≤ Wh.run l i ∧ Wh.run l i ≤ 2000000000) := Lib.hid fun i hi => Wh.run_bd a2 (Wh.alls_cnt a3) i hi
  have HN : Hid (∀ i, i < l.length → 1 ≤ (At l i).2 ∧ (At l i).2 ≤ 16777216) := Lib.hid (Wh.alls_cnt a3)
  have HZ := Lib.hid (Wh.run_zero l)
  have HS := Lib.hid (Wh.run_succ l)
  clear hv h hA a3 a4
  go_enter Tryz.func30, Tryz.ntmps30
  go_wp2_with (go_at_call 6; go_must (refine (HV.out _ ((Below.refl _ _).alloc (Nat.le_refl _) _)).mono ?_; rintro e w' ⟨rfl, hb⟩; obtain ⟨hc, hf⟩ := bcell hb; (try have hz0 : w.heap.size < w'.heap.size := Bz hb); (try have hz1 : w.heap.size + 1 < w'.heap.size := Bz hb); (try have hz2 : w.heap.size + 1 + 1 < w'.heap.size := Bz hb); have hz := hb.size; (try simp at hz)))
  have HBL : Hid (Below (w.heap.size + 1) (w.alloc (.cells #[.int .i64 ag, .int .i64 xf, .slice (some ⟨b, off, none⟩) l.length cap] 24)) w') := Lib.hid (hb.mono (by simp))
  clear hb hc hf
  go_loopw [3, 4] (fun q i wr => ∃ j : Nat, j ≤ l.length ∧ i = .int .i64 j ∧ q = .int .i64 (Wh.run l j) ∧ Below (w.heap.size + 1) (w.alloc (.cells #[.int .i64 ag, .int .i64 xf, .slice (some ⟨b, off, none⟩) l.length cap] 24)) wr) (fun _ i _ => l.length - (intOf i).toNat)
  case atStart => exact ⟨0, Nat.zero_le _, rfl, by rw [HZ.out], HBL.out⟩
  case round =>
   obtain ⟨j, hj, rfl, rfl, hR⟩ := hrel
   have hx2 : wr.cell? ⟨w.heap.size, 2, none⟩ = some (.slice (some ⟨b, off, none⟩) l.length cap) := (hR.cell (p := ⟨w.heap.size, 2, none⟩) (Nat.lt_succ_self _)).trans (by simp [go_sem])
   have hsz : w.heap.size < wr.heap.size := by have := hR.size; simp at this; omega
   have hAr := HA.out.below (lowBox hR)
   have hbl := hAr.lt
   have HR := Lib.hid hR
   clear hR
   by_cases hlt : j < l.length
   ·have c1 := hAr.ct j hlt
    have b1 := HN.out j hlt
    have b2 := HB.out j (by omega)
    have HE := Lib.hid (HS.out j)
    clear hAr HB HS HZ HN
    generalize Wh.run l j = q at *
    generalize At l j = a at *
    obtain ⟨s, c⟩ := a
    dsimp only at *
    go_wp2
    go_roundw
    case rel => exact ⟨j + 1, by omega, by go_num, congrArg (Value.int .i64) (by rw [HE.out]), HR.out⟩
    case measure => simp [intOf]; omega
   ·obtain rfl : j = l.length := by omega
    clear hAr HB HS HZ HN
    go_wp2
    go_ret
    exact ⟨by rw [HQ.out]; rfl, lowBox HR.out⟩
theorem rspn_any (ag xf : Int) (l : List (Int × Int)) (A : Option Addr) (cap : Nat) (w : World) (h : Row w A l cap) :
 Calls Tryz.prog 74 #[.agg #[.int .i64 ag, .int .i64 xf, .slice A l.length cap]] w fun e w' => e = .returned (.int .i64 (Wh.spn ag xf l)) ∧ Below w.heap.size w w' := by
 have HV : Hid (∀ W, Below w.heap.size w W → Calls Tryz.prog 6 #[.agg #[.int .i64 ag, .int .i64 xf, .slice A l.length cap]] W fun e w' => e = .returned (.bool (Wh.val ag xf l)) ∧ Below W.heap.size W w') := Lib.hid fun W hb => may_any ag xf l A cap W (h.below hb)
 cases hv : Wh.val ag xf l
 ·rw [hv] at HV
  have HQ : Hid (Wh.spn ag xf l = 0) := Lib.hid (by unfold Wh.spn; rw [hv]; rfl)
  clear hv h
  go_enter Tryz.func74, Tryz.ntmps74
  go_wp2_with (go_at_call 6; go_must (refine (HV.out _ ((Below.refl _ _).alloc (Nat.le_refl _) _)).mono ?_; rintro e w' ⟨rfl, hb⟩; obtain ⟨hc, hf⟩ := bcell hb; (try have hz0 : w.heap.size < w'.heap.size := Bz hb); (try have hz1 : w.heap.size + 1 < w'.heap.size := Bz hb); (try have hz2 : w.heap.size + 1 + 1 < w'.heap.size := Bz hb); have hz := hb.size; (try simp at hz)))
  go_ret
  exact ⟨by rw [HQ.out]; rfl, Bq⟩
 ·rw [hv] at HV
  obtain ⟨b, off, rfl, hA, hcap, a1, a2, a3, a4, _⟩ := row_val h hv
  obtain ⟨k, hk⟩ : ∃ k, l.length = k + 1 := ⟨l.length - 1, by omega⟩
  have HQ : Hid (Wh.spn ag xf l = (At l k).1 * (At l k).2) := Lib.hid (by
   unfold Wh.spn Wh.lsp
   rw [hv, hk]
   rfl)
  obtain ⟨⟨p1, p2⟩, p3, p4⟩ := Wh.alls_num (k := k) (by omega) a3
  have bm := Wh.mul_bd p1 p2 p3 p4
  have hw : IntKind.i64.wrap ((At l k).1 * (At l k).2) = (At l k).1 * (At l k).2 := IntWalk.i64_in _ (by omega)
  have c0 := hA.st k (by omega)
  have c1 := hA.ct k (by omega)
  have hbl := hA.lt
  clear hv h hA a3 a4
  generalize At l k = a at *
  obtain ⟨s, c⟩ := a
  dsimp only at *
  generalize hls : l.length = n at *
  clear hls
  subst hk
  generalize hmu : s * c = mu at *
  have HMU := Lib.hid hmu
  clear hmu
  have hw2 : IntKind.i64.wrap (s * c) = mu := by rw [HMU.out]; exact hw
  go_enter Tryz.func74, Tryz.ntmps74
  go_wp2_with (go_at_call 6; go_must (refine (HV.out _ ((Below.refl _ _).alloc (Nat.le_refl _) _)).mono ?_; rintro e w' ⟨rfl, hb⟩; obtain ⟨hc, hf⟩ := bcell hb; (try have hz0 : w.heap.size < w'.heap.size := Bz hb); (try have hz1 : w.heap.size + 1 < w'.heap.size := Bz hb); (try have hz2 : w.heap.size + 1 + 1 < w'.heap.size := Bz hb); have hz := hb.size; (try simp at hz)))
  go_ret
  exact ⟨by rw [HQ.out]; rfl, Bq⟩
theorem roffs_any (ag xf : Int) (l : List (Int × Int)) (A : Option Addr) (cap : Nat) (i : Int) (w : World) (h : Row w A l cap) :
 Calls Tryz.prog 60 #[.agg #[.int .i64 ag, .int .i64 xf, .slice A l.length cap], .int .i64 i] w fun e w' => e = .returned (.int .i64 (Wh.offs ag xf l i)) ∧ Below w.heap.size w w' := by
 have HV : Hid (∀ W, Below w.heap.size w W → Calls Tryz.prog 6 #[.agg #[.int .i64 ag, .int .i64 xf, .slice A l.length cap]] W fun e w' => e = .returned (.bool (Wh.val ag xf l)) ∧ Below W.heap.size W w') := Lib.hid fun W hb => may_any ag xf l A cap W (h.below hb)
 cases hv : Wh.val ag xf l
 ·rw [hv] at HV
  have HQ : Hid (Wh.offs ag xf l i = 0) := Lib.hid (by unfold Wh.offs; rw [hv, if_neg (by simp)])
  clear hv h
  go_enter Tryz.func60, Tryz.ntmps60
  go_wp2_with (go_at_call 6; go_must (refine (HV.out _ ((Below.refl _ _).alloc (Nat.le_refl _) _)).mono ?_; rintro e w' ⟨rfl, hb⟩; obtain ⟨hc, hf⟩ := bcell hb; (try have hz0 : w.heap.size < w'.heap.size := Bz hb); (try have hz1 : w.heap.size + 1 < w'.heap.size := Bz hb); (try have hz2 : w.heap.size + 1 + 1 < w'.heap.size := Bz hb); have hz := hb.size; (try simp at hz)))
  go_ret
  exact ⟨by rw [HQ.out]; rfl, Bq⟩
 ·rw [hv] at HV
  by_cases i0 : i < 0
  ·have HQ : Hid (Wh.offs ag xf l i = 0) := Lib.hid (by unfold Wh.offs; rw [if_neg (by omega)])
   clear hv h
   go_enter Tryz.func60, Tryz.ntmps60
   go_wp2_with (go_at_call 6; go_must (refine (HV.out _ ((Below.refl _ _).alloc (Nat.le_refl _) _)).mono ?_; rintro e w' ⟨rfl, hb⟩; obtain ⟨hc, hf⟩ := bcell hb; (try have hz0 : w.heap.size < w'.heap.size := Bz hb); (try have hz1 : w.heap.size + 1 < w'.heap.size := Bz hb); (try have hz2 : w.heap.size + 1 + 1 < w'.heap.size := Bz hb); have hz := hb.size; (try simp at hz)))
   go_ret
   exact ⟨by rw [HQ.out]; rfl, Bq⟩
  ·obtain ⟨i, rfl⟩ : ∃ k : Nat, i = (k : Int) := ⟨i.toNat, by omega⟩
   clear i0
   by_cases i1 : l.length ≤ i
   ·have HQ : Hid (Wh.offs ag xf l i = 0) := Lib.hid (by unfold Wh.offs; rw [if_neg (by omega)])
    clear hv h
    go_enter Tryz.func60, Tryz.ntmps60
    go_wp2_with (go_at_call 6; go_must (refine (HV.out _ ((Below.refl _ _).alloc (Nat.le_refl _) _)).mono ?_; rintro e w' ⟨rfl, hb⟩; obtain ⟨hc, hf⟩ := bcell hb; (try have hz0 : w.heap.size < w'.heap.size := Bz hb); (try have hz1 : w.heap.size + 1 < w'.heap.size := Bz hb); (try have hz2 : w.heap.size + 1 + 1 < w'.heap.size := Bz hb); have hz := hb.size; (try simp at hz)))
    go_ret
    exact ⟨by rw [HQ.out]; rfl, Bq⟩
   ·have HQ : Hid (Wh.offs ag xf l i = Wh.ends l i) := Lib.hid (by unfold Wh.offs; rw [if_pos ⟨hv, by omega, by omega⟩]; rfl)
    obtain ⟨b, off, rfl, hA, hcap, a1, a2, a3, a4, _⟩ := row_val h hv
    have HA := Lib.hid hA
    have HB : Hid (∀ i, i ≤ l.length → 16 ≤ Wh.ends l i ∧ Wh.ends l i ≤ 2000000000) := Lib.hid fun i hi => Wh.ends_bd a2 (Wh.alls_cnt a3) i hi
    have HN : Hid (∀ i, i < l.length → 1 ≤ (At l i).2 ∧ (At l i).2 ≤ 16777216) := Lib.hid (Wh.alls_cnt a3)
    have HZ := Lib.hid (Wh.ends_zero l)
    have HS := Lib.hid (Wh.ends_succ l)
    clear hv h hA a3 a4
    go_enter Tryz.func60, Tryz.ntmps60
    go_wp2_with (go_at_call 6; go_must (refine (HV.out _ ((Below.refl _ _).alloc (Nat.le_refl _) _)).mono ?_; rintro e w' ⟨rfl, hb⟩; obtain ⟨hc, hf⟩ := bcell hb; (try have hz0 : w.heap.size < w'.heap.size := Bz hb); (try have hz1 : w.heap.size + 1 < w'.heap.size := Bz hb); (try have hz2 : w.heap.size + 1 + 1 < w'.heap.size := Bz hb); have hz := hb.size; (try simp at hz)))
    have HBL : Hid (Below (w.heap.size + 1) (w.alloc (.cells #[.int .i64 ag, .int .i64 xf, .slice (some ⟨b, off, none⟩) l.length cap] 24)) w') := Lib.hid (hb.mono (by simp))
    clear hb hc hf
    go_loopw [5, 6] (fun q i' wr => ∃ j : Nat, j ≤ i ∧ i' = .int .i64 j ∧ q = .int .i64 (Wh.ends l j) ∧ Below (w.heap.size + 1) (w.alloc (.cells #[.int .i64 ag, .int .i64 xf, .slice (some ⟨b, off, none⟩) l.length cap] 24)) wr) (fun _ i' _ => i - (intOf i').toNat)
    case atStart => exact ⟨0, Nat.zero_le _, rfl, by rw [HZ.out], HBL.out⟩
    case round =>
     obtain ⟨j, hj, rfl, rfl, hR⟩ := hrel
     have hx2 : wr.cell? ⟨w.heap.size, 2, none⟩ = some (.slice (some ⟨b, off, none⟩) l.length cap) := (hR.cell (p := ⟨w.heap.size, 2, none⟩) (Nat.lt_succ_self _)).trans (by simp [go_sem])
     have hsz : w.heap.size < wr.heap.size := by have := hR.size; simp at this; omega
     have hAr := HA.out.below (lowBox hR)
     have hbl := hAr.lt
     have HR := Lib.hid hR
     clear hR
     by_cases hlt : j < i
     ·have c1 := hAr.ct j (by omega)
      have b1 := HN.out j (by omega)
      have b2 := HB.out j (by omega)
      have HE := Lib.hid (HS.out j)
      clear hAr HB HS HZ HN
      generalize Wh.ends l j = q at *
      generalize At l j = a at *
      obtain ⟨s, c⟩ := a
      dsimp only at *
      go_wp2
      go_roundw
      case rel => exact ⟨j + 1, by omega, by go_num, congrArg (Value.int .i64) (by rw [HE.out]), HR.out⟩
      case measure => simp [intOf]; omega
     ·obtain rfl : j = i := by omega
      clear hAr HB HS HZ HN
      go_wp2
      go_ret
      exact ⟨by rw [HQ.out]; rfl, lowBox HR.out⟩
end
section
open Go.RowKit Go.Sort
open Fx (Vl)
open Me
theorem infoVal : (Tryz.prog.info? 105).map (fun i => (i.zero, i.size, i.bytes)) = some (some (.agg #[.bool false, .int .i64 0]), 2, 16) := by kernel_rfl
def cellsOf (l : List Vl) : List Value := l.flatMap fun v => [.bool v.ok, .int .i64 v.n]
theorem cellsOf_length (l : List Vl) : (cellsOf l).length = l.length * 2 := by
 induction l with
 | nil => rfl
 | cons v l ih => simp only [cellsOf, List.flatMap_cons, List.length_append, List.length_cons, List.length_nil] at *; omega
theorem cellsOf_even (l : List Vl) : ∀ i (h : i < l.length), (cellsOf l)[i * 2]? = some (.bool l[i].ok) := by
 induction l with
 | nil => intro i h; cases h
 | cons v l ih =>
   intro i h
   cases i with
   | zero => rfl
   | succ i =>
     have := ih i (by simpa using h)
     have e : (i + 1) * 2 = i * 2 + 1 + 1 := by omega
     rw [e]
     show (cellsOf l)[i * 2]? = _
     exact this
theorem cellsOf_odd (l : List Vl) : ∀ i (h : i < l.length), (cellsOf l)[i * 2 + 1]? = some (.int .i64 l[i].n) := by
 induction l with
 | nil => intro i h; cases h
 | cons v l ih =>
   intro i h
   cases i with
   | zero => rfl
   | succ i =>
     have := ih i (by simpa using h)
     have e : (i + 1) * 2 + 1 = i * 2 + 1 + 1 + 1 := by omega
     rw [e]
     show (cellsOf l)[i * 2 + 1]? = _
     exact this
theorem cellsOf_append (l m : List Vl) : cellsOf (l ++ m) = cellsOf l ++ cellsOf m := by simp [cellsOf]
theorem cellsOf_single (v : Vl) : cellsOf [v] = [.bool v.ok, .int .i64 v.n] := rfl
def Sl (w : World) (v : Value) (l : List Vl) : Prop := (l = [] ∧ ∃ x cap, v = .slice x 0 cap) ∨ (0 < l.length ∧ ∃ b off cap, v = .slice (some ⟨b, off, none⟩) l.length cap ∧ Vals w b off l)
theorem Sl.below {w w' : World} {v : Value} {l : List Vl} (h : Sl w v l) (hb : Below w.heap.size w w') : Sl w' v l := by
 rcases h with h | ⟨h0, b, off, cap, e, hv⟩
 ·exact .inl h
 ·exact .inr ⟨h0, b, off, cap, e, hv.below hb⟩
theorem Sl.form {w : World} {v : Value} {l : List Vl} (h : Sl w v l) : ∃ A c, v = .slice A l.length c := by
 rcases h with ⟨rfl, x, cap, rfl⟩ | ⟨_, b, off, cap, rfl, _⟩
 ·exact ⟨_, _, rfl⟩
 ·exact ⟨_, _, rfl⟩
theorem Sl.nil (w : World) (x : Option Addr) (cap : Nat) : Sl w (.slice x 0 cap) [] := .inl ⟨rfl, x, cap, rfl⟩
def OwnV (base : Nat) (w : World) (v : Value) (l : List Vl) : Prop := w.ownsRow base 105 2 v l.length (cellsOf l)
theorem OwnV.lt {base : Nat} {w : World} {v : Value} {l : List Vl} (h : OwnV base w v l) : ∀ g, v.ownBlock = some g → base ≤ g ∧ g < w.heap.size := by
 intro g hg
 rcases h.2 with ⟨rfl, _⟩ | ⟨g', cap, cur, rfl, hb, hh, _⟩
 ·cases hg
 ·have : g' = g := by simpa [Value.ownBlock] using hg
  subst this
  exact ⟨hb, (Array.getElem?_eq_some_iff.1 hh).1⟩
theorem OwnV.nil (a : Nat) (w : World) : OwnV a w (.slice none 0 0) [] := ⟨rfl, .inl ⟨rfl, rfl⟩⟩
theorem OwnV.below {a : Nat} {w w' : World} {v : Value} {l : List Vl} (h : OwnV a w v l) (k : Below w.heap.size w w') : OwnV a w' v l :=
 owns_keep h fun g hg => k.block g (h.lt g hg).2
theorem OwnV.slice {a : Nat} {w : World} {v : Value} {l : List Vl} (h : OwnV a w v l) : ∃ A c, v = .slice A l.length c := by
 rcases h.2 with ⟨rfl, h0⟩ | ⟨g', cap, cur, rfl, _⟩
 ·exact ⟨none, 0, by rw [h0]⟩
 ·exact ⟨_, _, rfl⟩
theorem OwnV.more {base : Nat} {w : World} {v : Value} {l : List Vl} {ok : Bool} {n : Int} (h : w.ownsRow base 105 2 v (l.length + 1) (cellsOf l ++ [.bool ok, .int .i64 n])) : OwnV base w v (l ++ [⟨ok, n⟩]) := by
 unfold OwnV
 rw [List.length_append, cellsOf_append, cellsOf_single]
 exact h
theorem OwnV.sl {base : Nat} {w : World} {v : Value} {l : List Vl} (h : OwnV base w v l) : Sl w v l := by
 obtain ⟨hlen, ⟨rfl, h0⟩ | ⟨g, cap, cur, rfl, hb, hg, hle, hm, hs, hx⟩⟩ := h
 ·exact .inl ⟨List.eq_nil_of_length_eq_zero h0, none, 0, rfl⟩
 ·by_cases h0 : l.length = 0
  ·have e := List.eq_nil_of_length_eq_zero h0
   subst e
   exact .inl ⟨rfl, _, _, rfl⟩
  ·refine .inr ⟨by omega, g, 0, cap, rfl, (Array.getElem?_eq_some_iff.1 hg).1, ?_, ?_⟩
   ·intro i hi
    rw [Nat.zero_add, ← cellsOf_even l i hi, ← hx, List.getElem?_take, if_pos (by rw [cellsOf_length] at hlen; omega)]
    simp [World.cell?, hg]
   ·intro i hi
    rw [Nat.zero_add, ← cellsOf_odd l i hi, ← hx, List.getElem?_take, if_pos (by rw [cellsOf_length] at hlen; omega)]
    simp [World.cell?, hg]
theorem adN (b off j : Nat) : (⟨b, off, none⟩ : Addr).add j = ⟨b, off + j, none⟩ := by simp [Addr.add]
end
section
open Go.RowKit Go.Sort
open Fx (Vl)
open Me
namespace Wp
structure FileR (w : World) (x fs : Nat) (n : List UInt8) (h : Hd) (A : Option Addr) (cap : Nat) : Prop where
 row : RowAt w x 125 #[.pointer (some ⟨fs, 0, none⟩), .string ⟨n.toArray⟩, .int .i64 h.ag, .int .i64 h.xf, .slice A h.l.length cap]
 ars : Row w A h.l cap
theorem FileR.below {w w' : World} {x fs : Nat} {n : List UInt8} {h : Hd} {A : Option Addr} {cap : Nat} (f : FileR w x fs n h A cap) (b : Below w.heap.size w w') : FileR w' x fs n h A cap :=
 ⟨f.row.below b f.row.lt, f.ars.below b⟩
theorem FileR.keep {w w' : World} {V : Nat → Prop} {x fs : Nat} {n : List UInt8} {h : Hd} {A : Option Addr} {cap : Nat} (f : FileR w x fs n h A cap) (k : Kp (fun b => ¬ V b) w w') (hx : V x) (hA : ∀ a, A = some a → V a.block) : FileR w' x fs n h A cap := by
 refine ⟨(k.block x f.row.lt (fun o => o hx)).trans f.row, f.ars.1, fun h0 => ?_⟩
 obtain ⟨b, off, e, ha⟩ := f.ars.2 h0
 have hb : V b := hA _ e
 exact ⟨b, off, e, Nat.lt_of_lt_of_le ha.lt k.size, fun i hi => (k.cell (p := ⟨b, off + i * 2, none⟩) ha.lt (fun o => o hb)).trans (ha.st i hi), fun i hi => (k.cell (p := ⟨b, off + i * 2 + 1, none⟩) ha.lt (fun o => o hb)).trans (ha.ct i hi)⟩
theorem Hd.nums {h : Hd} (hv : h.val = true) : ∀ i, i < h.l.length → (1 ≤ h.step i ∧ h.step i ≤ 16777216) ∧ (1 ≤ h.cnt i ∧ h.cnt i ≤ 16777216) := by
 obtain ⟨_, _, _, ha⟩ := Wh.val_t hv
 obtain ⟨a1, a2, a3, a4, a5⟩ := Wh.av_t ha
 exact fun i hi => Wh.alls_num hi a3
theorem Hd.len {h : Hd} (hv : h.val = true) : 1 ≤ h.l.length ∧ h.l.length ≤ 8 := by
 obtain ⟨_, _, _, ha⟩ := Wh.val_t hv
 obtain ⟨a1, a2, a3, a4, a5⟩ := Wh.av_t ha
 exact ⟨a1, a2⟩
theorem Hd.offs_bd {h : Hd} (hv : h.val = true) (i : Int) : 0 ≤ h.offs i ∧ h.offs i ≤ 2000000000 := by
 obtain ⟨_, _, _, ha⟩ := Wh.val_t hv
 obtain ⟨a1, a2, a3, a4, a5⟩ := Wh.av_t ha
 unfold Hd.offs Wh.offs
 split
 ·rename_i hh
  have := Wh.ends_bd a2 (Wh.alls_cnt a3) i.toNat (by omega)
  omega
 ·omega
theorem pl_bd {s c t : Int} (hc : 1 ≤ c ∧ c ≤ 16777216) : 0 ≤ Sl.pl s c t ∧ Sl.pl s c t ≤ 16777216 := by
 unfold Sl.pl
 split
 ·omega
 ·have h1 := Int.emod_nonneg (t / s) (by omega : c ≠ 0)
  have h2 := Int.emod_lt_of_pos (t / s) (by omega : 0 < c)
  omega
theorem at_bd {h : Hd} (hv : h.val = true) (i : Nat) (hi : i < h.l.length) (t : Int) : 0 ≤ at_ h i t ∧ at_ h i t ≤ 2300000000 := by
 have h1 := Hd.offs_bd hv (i : Int)
 have h2 := pl_bd (s := h.step i) (t := t) (Hd.nums hv i hi).2
 unfold at_
 omega
end Wp
open Wp
theorem rat_any {w : World} {x fs : Nat} {n : List UInt8} {h : Hd} {A : Option Addr} {cap : Nat} (f : FileR w x fs n h A cap) (hv : h.val = true) (i : Nat) (hi : i < h.l.length) (t : Int) (ht : t ≤ 9223372036854775807) :
 Calls Tryz.prog 108 #[.pointer (some ⟨x, 0, none⟩), .int .i64 (i : Int), .int .i64 t] w fun e w' => e = .returned (.int .i64 (at_ h i t)) ∧ Below w.heap.size w w' := by
 have HO : Hid (∀ W, Below w.heap.size w W → Calls Tryz.prog 60 #[.agg #[.int .i64 h.ag, .int .i64 h.xf, .slice A h.l.length cap], .int .i64 (i : Int)] W fun e w' => e = .returned (.int .i64 (h.offs (i : Int))) ∧ Below W.heap.size W w') := Lib.hid fun W hb => roffs_any h.ag h.xf h.l A cap i W (f.ars.below hb)
 have HP : Hid (∀ W, Calls Tryz.prog 67 #[.agg #[.int .i64 (h.step i), .int .i64 (h.cnt i)], .int .i64 t] W fun e w' => e = .returned (.int .i64 (Sl.pl (h.step i) (h.cnt i) t)) ∧ Below W.heap.size W w') := Lib.hid fun W => rplace_any _ _ t ht W
 have HQ : Hid (at_ h i t = h.offs (i : Int) + 12 * Sl.pl (h.step i) (h.cnt i) t) := Lib.hid rfl
 have b1 := Hd.offs_bd hv (i : Int)
 have b2 := pl_bd (s := h.step i) (t := t) (Hd.nums hv i hi).2
 obtain ⟨b, off, rfl, ha⟩ := f.ars.2 (by omega)
 have c0 := f.row.cell 2
 have c1 := f.row.cell 3
 have c2 := f.row.cell 4
 have hxl := f.row.lt
 have s0 : w.cell? ⟨b, off + i * 2, none⟩ = some (.int .i64 (h.step i)) := ha.st i hi
 have s1 : w.cell? ⟨b, off + i * 2 + 1, none⟩ = some (.int .i64 (h.cnt i)) := ha.ct i hi
 have hbl := ha.lt
 simp only [List.getElem?_toArray, List.getElem?_cons_succ, List.getElem?_cons_zero] at c0 c1 c2
 clear f ha
 generalize at_ h i t = r at *
 generalize h.offs (i : Int) = o at *
 generalize Sl.pl (h.step i) (h.cnt i) t = p at *
 generalize h.step i = s at *
 generalize h.cnt i = k at *
 generalize h.l.length = L at *
 generalize h.ag = ag at *
 generalize h.xf = xf at *
 obtain ⟨m, hm⟩ : ∃ m, 12 * p = m := ⟨_, rfl⟩
 obtain ⟨q, hq⟩ : ∃ q, o + m = q := ⟨_, rfl⟩
 have hw1 : IntKind.i64.wrap m = m := IntWalk.i64_in _ (by omega)
 have hw2 : IntKind.i64.wrap q = q := IntWalk.i64_in _ (by omega)
 have HR : Hid (r = q) := Lib.hid (by rw [HQ.out, hm, hq])
 have hil : (i : Int) < (L : Int) := by omega
 have hi0 : (0 : Int) ≤ (i : Int) := by omega
 obtain ⟨kc, kf⟩ := kgrown w
 go_enter Tryz.func108, Tryz.ntmps108
 go_wp2_with fail
 refine wp_region_quiet_below (by kernel_rfl) (by kernel_rfl) ?_
 repeat (go_big_quiet_step (first
  | (go_at_call 60; exact Calls.regrown_of (HO.out _ (below_regrown _ _ _)))
  | (go_at_call 67; exact Calls.regrown_of (HP.out _))))
 refine wpQuiet_nil ?_
 intro _ hw'
 obtain ⟨⟨dq, osq⟩, hw''⟩ := hw'
 subst hw''
 go_wp2
 go_ret
 exact ⟨by rw [HR.out]; rfl, below_regrown _ _ _⟩
end
section
open Go.RowKit Go.Sort
open Fx (Vl)
open Me
open Wp
theorem rsdec_v (L : List UInt8) (A : Option Addr) (cap : Nat) (w : World) (h : Reads w (.slice A L.length cap) L) :
 Calls Tryz.prog 61 #[.slice A L.length cap] w fun e w' => e = .returned (.tuple #[.agg #[.int .i64 (Sl.dat L), .int .i64 (Sl.dnn L)], .bool (Sl.okd L)]) ∧ Below w.heap.size w w' := by
 by_cases hl : L.length = 12
 ·obtain ⟨A', c', e, hc, hr⟩ := h
  injection e with e1 e2 e3
  subst e1 e3
  obtain ⟨b, off, rfl, hb⟩ := By.of hr (by omega)
  have e1 : Sl.dat L = Wh.nm L 0 := by unfold Sl.dat; rw [if_pos hl]
  have e2 : Sl.dnn L = Sl.dn L := by unfold Sl.dnn; rw [if_pos hl]
  have e3 : Sl.okd L = true := by unfold Sl.okd; rw [decide_eq_true hl]
  have := rsdecode_12 L hl b off cap w hb (by omega)
  rw [e1, e2, e3, hl]
  exact this
 ·have e1 : Sl.dat L = 0 := by unfold Sl.dat; rw [if_neg hl]
  have e2 : Sl.dnn L = 0 := by unfold Sl.dnn; rw [if_neg hl]
  have e3 : Sl.okd L = false := by unfold Sl.okd; rw [decide_eq_false hl]
  rw [e1, e2, e3]
  exact rsdecode_no A L.length cap hl w
theorem rvalue_any {w : World} {V : Nat → Prop} {c x fs : Nat} {S : Vf.Sv} {n : List UInt8} {h : Hd} {A : Option Addr} {cap : Nat} (ro : RO w V fs c S) (hc : c ≤ 1000000) (f : FileR w x fs n h A cap) (hv : h.val = true) (i : Nat) (hi : i < h.l.length) (t : Int) (ht : t ≤ 9223372036854775807) :
 Calls Tryz.prog 81 #[.pointer (some ⟨x, 0, none⟩), .int .i64 (i : Int), .int .i64 t] w fun e w' => e = .returned (.agg #[.bool (value S.now n h i t).ok, .int .i64 (value S.now n h i t).n]) ∧ Below w.heap.size w w' := by
 have HAT : Hid (∀ W, Below w.heap.size w W → Calls Tryz.prog 108 #[.pointer (some ⟨x, 0, none⟩), .int .i64 (i : Int), .int .i64 t] W fun e w' => e = .returned (.int .i64 (at_ h i t)) ∧ Below W.heap.size W w') := Lib.hid fun W hb => rat_any (f.below hb) hv i hi t ht
 have HRD : Hid (∀ W, Below w.heap.size w W → Calls Tryz.prog 25 #[.pointer (some ⟨fs, 0, none⟩), .string ⟨n.toArray⟩, .int .i64 (at_ h i t), .int .i64 12] W (Vf.Handed W (Vf.read S.now n (at_ h i t) 12))) := Lib.hid fun W hb => roread (ro.below hb) hc n _ _
 have HAL : Hid (∀ W, Calls Tryz.prog 80 #[.int .i64 t, .int .i64 (h.step i)] W fun e w' => e = .returned (.int .i64 (Sl.al t (h.step i))) ∧ W = w') := Lib.hid fun W => ralign_any t _ ht W
 have HQ : Hid (value S.now n h i t = if Sl.al t (h.step i) ≤ 0 ∨ Sl.dat (Vf.read S.now n (at_ h i t) 12).1 ≠ Sl.al t (h.step i) then Fx.none else Fx.of (Sl.dnn (Vf.read S.now n (at_ h i t) 12).1)) := Lib.hid rfl
 obtain ⟨b, off, rfl, ha⟩ := f.ars.2 (by omega)
 have c0 : w.cell? ⟨x, 0, none⟩ = some (.pointer (some ⟨fs, 0, none⟩)) := f.row.cell 0
 have c1 : w.cell? ⟨x, 1, none⟩ = some (.string ⟨n.toArray⟩) := f.row.cell 1
 have c4 : w.cell? ⟨x, 4, none⟩ = some (.slice (some ⟨b, off, none⟩) h.l.length cap) := f.row.cell 4
 have s0 : w.cell? ⟨b, off + i * 2, none⟩ = some (.int .i64 (h.step i)) := ha.st i hi
 have hxl := f.row.lt
 have hbl := ha.lt
 have HC : Hid (∀ W, Below (w.heap.size + 1) (w.alloc (.cells #[.bool false, .int .i64 0] 105)) W → (W.cell? ⟨x, 0, none⟩ = some (.pointer (some ⟨fs, 0, none⟩)) ∧ W.cell? ⟨x, 1, none⟩ = some (.string ⟨n.toArray⟩) ∧ W.cell? ⟨x, 4, none⟩ = some (.slice (some ⟨b, off, none⟩) h.l.length cap) ∧ W.cell? ⟨b, off + i * 2, none⟩ = some (.int .i64 (h.step i))) ∧
  (W.cell? ⟨w.heap.size, 0, none⟩ = some (.bool false) ∧ W.cell? ⟨w.heap.size, 1, none⟩ = some (.int .i64 0) ∧ W.frozen? ⟨w.heap.size, 0, none⟩ = false ∧ W.frozen? ⟨w.heap.size, 1, none⟩ = false) ∧ w.heap.size < W.heap.size ∧ x < W.heap.size ∧ b < W.heap.size) := Lib.hid fun W hb =>
  have hl := lowBox' hb
  ⟨⟨((bcell hl).1 _ _ hxl).trans c0, ((bcell hl).1 _ _ hxl).trans c1, ((bcell hl).1 _ _ hxl).trans c4, ((bcell hl).1 _ _ hbl).trans s0⟩,
    ⟨(hb.cell (p := ⟨w.heap.size, 0, none⟩) (Nat.lt_succ_self _)).trans (by simp [go_sem]), (hb.cell (p := ⟨w.heap.size, 1, none⟩) (Nat.lt_succ_self _)).trans (by simp [go_sem]), (hb.frozen (p := ⟨w.heap.size, 0, none⟩) (Nat.lt_succ_self _)).trans (by simp [go_sem]), (hb.frozen (p := ⟨w.heap.size, 1, none⟩) (Nat.lt_succ_self _)).trans (by simp [go_sem])⟩,
    Nat.lt_of_lt_of_le (by simp) hb.size, Nat.lt_of_lt_of_le hxl hl.size, Nat.lt_of_lt_of_le hbl hl.size⟩
 obtain ⟨⟨d0, d1, d4, ds⟩, _, _, _⟩ := HC.out (w.alloc (.cells #[.bool false, .int .i64 0] 105)) (Below.refl _ _)
 have hil : (i : Int) < (h.l.length : Int) := by omega
 have hi0 : (0 : Int) ≤ (i : Int) := by omega
 clear f ha c0 c1 c4 s0
 generalize at_ h i t = a at *
 generalize value S.now n h i t = q at *
 generalize Vf.read S.now n a 12 = R at *
 obtain ⟨L, er⟩ := R
 generalize Sl.al t (h.step i) = u at *
 generalize h.step i = s at *
 generalize h.l.length = N at *
 generalize (⟨n.toArray⟩ : ByteArray) = nb at *
 go_enter Tryz.func81, Tryz.ntmps81
 go_wp2_with fail
 go_region_held3 (fun W => W.cell? ⟨x, 0, none⟩ = some (.pointer (some ⟨fs, 0, none⟩)) ∧ W.cell? ⟨x, 1, none⟩ = some (.string nb)) (first | exact ⟨d0, d1⟩ | exact ⟨e0, e1⟩ | exact ⟨f0, f1⟩ | go_keep)
  (first
   | (go_at_call 108; (with_reducible refine (HAT.out _ Bqn).mono ?_); rintro e w2 ⟨rfl, hb2⟩; have hbb : Below (w.heap.size + 1) (w.alloc (.cells #[.bool false, .int .i64 0] 105)) w2 := Bqn; obtain ⟨⟨e0, e1, e4, es⟩, _, hs2, _, _⟩ := HC.out w2 hbb; have HB2 := Lib.hid hbb; clear hb2 hbb)
   | (go_at_call 25; (with_reducible refine (HRD.out _ (lowBox' HB2.out)).mono ?_); rintro e w3 ⟨v3, rfl, hv3, hb3⟩; have hbb : Below (w.heap.size + 1) (w.alloc (.cells #[.bool false, .int .i64 0] 105)) w3 := HB2.out.trans (hb3.mono hs2); obtain ⟨⟨f0, f1, f4, fx⟩, _, hs3, hx3, hb3'⟩ := HC.out w3 hbb; have HB3 := Lib.hid hbb; have HV3 : Hid (Reads w3 v3 L) := Lib.hid (by obtain ⟨A', c', e', h1', _, h3'⟩ := hv3; exact ⟨A', c', e', h1', h3'.mono fun _ _ _ => trivial⟩); obtain ⟨A3, c3, rfl, _, _⟩ := HV3.out; clear hb3 hbb hv3))
 have HQ' : Hid (q = if u ≤ 0 ∨ Sl.dat L ≠ u then Fx.none else Fx.of (Sl.dnn L)) := HQ
 clear HQ HAT HRD
 have HDC : Hid (∀ W, Below w3.heap.size w3 W → Calls Tryz.prog 61 #[.slice A3 L.length c3] W fun e w' => e = .returned (.tuple #[.agg #[.int .i64 (Sl.dat L), .int .i64 (Sl.dnn L)], .bool (Sl.okd L)]) ∧ Below W.heap.size W w') := Lib.hid fun W hb => rsdec_v L A3 c3 W (HV3.out.below hb)
 have HOF : Hid (∀ W, Calls Tryz.prog 109 #[.int .i64 (Sl.dnn L)] W fun e w' => e = .returned (.agg #[.bool (Fx.of (Sl.dnn L)).ok, .int .i64 (Fx.of (Sl.dnn L)).n]) ∧ Below W.heap.size W w') := Lib.hid fun W => refOf_any _ W
 generalize Sl.dat L = da at *
 generalize Sl.dnn L = dn at *
 generalize Sl.okd L = ok at *
 generalize Fx.of dn = fo at *
 obtain ⟨fo, fn⟩ := fo
 have hz3 : w3.heap.size ≤ w3.heap.size := Nat.le_refl _
 by_cases hu : u ≤ 0
 ·obtain rfl : q = Fx.none := by rw [HQ'.out, if_pos (.inl hu)]
  clear HQ'
  go_wp2_with first
   | (go_at_call 61; (with_reducible refine (HDC.out _ (Below.refl _ _)).mono ?_); rintro e w4 ⟨rfl, hb4⟩; have hbb : Below (w.heap.size + 1) (w.alloc (.cells #[.bool false, .int .i64 0] 105)) w4 := HB3.out.trans (hb4.mono hs3); obtain ⟨⟨g0, g1, g4, gx⟩, ⟨r0, r1, y0, y1⟩, hs4, hx4, hb4'⟩ := HC.out w4 hbb; have HB4 := Lib.hid hbb; clear hb4 hbb)
   | (go_at_call 80; ((with_reducible refine (HAL.out _).mono ?_); rintro e w' ⟨rfl, rfl⟩))
  exact bodyPost_ret (v := .agg #[.bool false, .int .i64 0]) (by simp [results, Tryz.results81, go_sem, *]) rfl ⟨rfl, Below.alloc (Below.setCell (Below.setCell (lowBox' HB4.out) (Nat.le_refl _) _) (Nat.le_refl _) _) (by simp [World.setCell]; omega) _⟩
 by_cases hp : da = u
 ·obtain rfl : q = ⟨fo, fn⟩ := by rw [HQ'.out, if_neg (by rintro (h | h); exact hu h; exact h hp)]
  clear HQ'
  subst hp
  go_wp2_with first
   | (go_at_call 61; (with_reducible refine (HDC.out _ (Below.refl _ _)).mono ?_); rintro e w4 ⟨rfl, hb4⟩; have hbb : Below (w.heap.size + 1) (w.alloc (.cells #[.bool false, .int .i64 0] 105)) w4 := HB3.out.trans (hb4.mono hs3); obtain ⟨⟨g0, g1, g4, gx⟩, ⟨r0, r1, y0, y1⟩, hs4, hx4, hb4'⟩ := HC.out w4 hbb; have HB4 := Lib.hid hbb; clear hb4 hbb)
   | (go_at_call 80; ((with_reducible refine (HAL.out _).mono ?_); rintro e w' ⟨rfl, rfl⟩))
   | (go_at_call 109; (with_reducible refine (HOF.out _).mono ?_); rintro e w5 ⟨rfl, hb5⟩; have hbb : Below (w.heap.size + 1) (w.alloc (.cells #[.bool false, .int .i64 0] 105)) w5 := (HB4.out.alloc (by omega) _).trans (hb5.mono (by simp; omega)); obtain ⟨_, ⟨o0, o1, z0, z1⟩, hs5, _, _⟩ := HC.out w5 hbb; have HB5 := Lib.hid hbb; clear hb5 hbb)
  exact bodyPost_ret (v := .agg #[.bool fo, .int .i64 fn]) (by simp [results, Tryz.results81, go_sem, *]) rfl ⟨rfl, Below.setCell (Below.setCell (lowBox' HB5.out) (Nat.le_refl _) _) (Nat.le_refl _) _⟩
 ·obtain rfl : q = Fx.none := by rw [HQ'.out, if_pos (.inr hp)]
  clear HQ'
  have hpb : (da == u) = false := by simpa using hp
  have hpn : (da != u) = true := by simpa using hp
  go_wp2_with first
   | (go_at_call 61; (with_reducible refine (HDC.out _ (Below.refl _ _)).mono ?_); rintro e w4 ⟨rfl, hb4⟩; have hbb : Below (w.heap.size + 1) (w.alloc (.cells #[.bool false, .int .i64 0] 105)) w4 := HB3.out.trans (hb4.mono hs3); obtain ⟨⟨g0, g1, g4, gx⟩, ⟨r0, r1, y0, y1⟩, hs4, hx4, hb4'⟩ := HC.out w4 hbb; have HB4 := Lib.hid hbb; clear hb4 hbb)
   | (go_at_call 80; ((with_reducible refine (HAL.out _).mono ?_); rintro e w' ⟨rfl, rfl⟩))
  exact bodyPost_ret (v := .agg #[.bool false, .int .i64 0]) (by simp [results, Tryz.results81, go_sem, *]) rfl ⟨rfl, Below.alloc (Below.setCell (Below.setCell (lowBox' HB4.out) (Nat.le_refl _) _) (Nat.le_refl _) _) (by simp [World.setCell]; omega) _⟩
end
end Go.Proofs.YtbakngbmfgnmcaaGreatDoor
