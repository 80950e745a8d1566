/- WpPure VrMake WpRO WhSide WhMay -/
import Derived.Test.YtljlanhpjpjgaaaGreatDoorJ1
import Derived.Test.YtljlanhpjpjgaaaGreatDoorJ4
import Derived.Test.YtljlanhpjpjgaaaGreatDoorJ3
import Derived.Test.YtljlanhpjpjgaaaGreatDoorJ8
import Derived.Test.YtljlanhpjpjgaaaGreatDoorJ10
import Derived.Test.YtljlanhpjpjgaaaGreatDoorJ11
import Derived.Test.YtljlanhpjpjgaaaGreatDoorJ12
import Derived.Test.YtljlanhpjpjgaaaGreatDoorJ5
namespace Go.Proofs.YtljlanhpjpjgaaaGreatDoor
set_option maxRecDepth 100000
set_option maxHeartbeats 8000000
section
open Go.RowKit
open Fx (Vl)
open Vf (Fl Sv)
namespace Wp
structure Hd where
 ag : Int
 xf : Int
 l : List (Int × Int)
def Hd.zero : Hd := ⟨0, 0, []⟩
def Hd.val (h : Hd) : Bool := Wh.val h.ag h.xf h.l
def Hd.size (h : Hd) : Int := Wh.size h.ag h.xf h.l
def Hd.offs (h : Hd) (i : Int) : Int := Wh.offs h.ag h.xf h.l i
def Hd.span (h : Hd) : Int := Wh.spn h.ag h.xf h.l
def Hd.step (h : Hd) (i : Nat) : Int := (Wh.At h.l i).1
def Hd.cnt (h : Hd) (i : Nat) : Int := (Wh.At h.l i).2
def hdOf (b : List UInt8) : Hd := ⟨Wh.dag b, Wh.dxf b, Wh.dl b⟩
def info (fs : List Fl) (n : List UInt8) : Hd × Int :=
 if (Vf.size fs n).2 ≠ 0 then (Hd.zero, (Vf.size fs n).2)
 else
  let b := (Vf.read fs n 0 (Vf.size fs n).1).1
  if Wh.derr b ≠ 0 ∨ (hdOf b).size ≠ (Vf.size fs n).1 then (Hd.zero, 2) else (hdOf b, 0)
def create (S : Sv) (n : List UInt8) (h : Hd) : Sv × Int :=
 if h.val = false then (S, 1)
 else
  let b := Wh.enc h.ag h.xf h.l
  let R := Vf.create S n (b ++ List.replicate (h.size - (b.length : Int)).toNat 0)
  if R.2 = 0 then ({ R.1 with was := R.1.now, l := [] }, 0) else (R.1, R.2)
def at_ (h : Hd) (i : Nat) (t : Int) : Int := h.offs i + 12 * Sl.pl (h.step i) (h.cnt i) t
def pt (b : List UInt8) : Int × Int := (Sl.dat b, Sl.dnn b)
def value (fs : List Fl) (n : List UInt8) (h : Hd) (i : Nat) (t : Int) : Vl :=
 let p := pt (Vf.read fs n (at_ h i t) 12).1
 let u := Sl.al t (h.step i)
 if u ≤ 0 ∨ p.1 ≠ u then Fx.none else Fx.of p.2
def write (S : Sv) (n : List UInt8) (h : Hd) (i : Nat) (t v : Int) : Sv :=
 let a := at_ h i t
 let S1 := (Vf.write S n a [0, 0, 0, 0]).1
 let S2 := (Vf.write S1 n (a + 4) (Sl.beb v 8)).1
 (Vf.write S2 n a (Sl.beb (Sl.lim (Sl.al t (h.step i))) 4)).1
def vals (fs : List Fl) (n : List UInt8) (h : Hd) (i : Nat) (t : Int) (k : Nat) : List Vl :=
 (List.range k).map fun (j : Nat) => value fs n h i (Sl.al t (h.step (i + 1)) + (j : Int) * h.step i)
def many (h : Hd) (i : Nat) : Nat := (h.step (i + 1) / h.step i).toNat
def passes (S : Sv) (n : List UInt8) (h : Hd) (i : Nat) (t : Int) : Sv × Bool :=
 let v := Ag.put h.ag h.xf (vals S.now n h i t (many h i))
 if v.ok = false ∨ Sl.al t (h.step (i + 1)) = 0 then (S, false) else (write S n h (i + 1) t v.n, true)
def climb (n : List UInt8) (h : Hd) (t : Int) : Nat → Sv → Nat → Sv
 | 0, S, _ => S
 | m + 1, S, k => if (passes S n h k t).2 = true then climb n h t m (passes S n h k t).1 (k + 1) else S
def first (h : Hd) (d : Int) : Nat → Nat → Option Nat
 | 0, _ => none
 | m + 1, i => if d < h.step i * h.cnt i then some i else first h d m (i + 1)
def lays (S : Sv) (n : List UInt8) (h : Hd) (now : Int) (p : Int × Int) : Sv × Bool :=
 if p.1 < 1 ∨ now < p.1 ∨ Fx.inR p.2 = false then (S, false)
 else match first h (now - p.1) h.l.length 0 with
  | none => (S, false)
  | some i => if Sl.al p.1 (h.step i) = 0 then (S, false) else (climb n h p.1 (h.l.length - 1 - i) (write S n h i p.1 p.2) i, true)
def layAll (n : List UInt8) (h : Hd) (now : Int) : List (Int × Int) → Sv → Int → Sv × Int
 | [], S, c => (S, c)
 | p :: l, S, c => layAll n h now l (lays S n h now p).1 (if (lays S n h now p).2 = true then c + 1 else c)
def time (now : Int) : Bool := decide (1 ≤ now ∧ now ≤ 4294967295)
def update (S : Sv) (n : List UInt8) (now : Int) (l : List (Int × Int)) : Sv × Int × Int :=
 let R := info S.now n
 if R.2 ≠ 0 then (S, 0, R.2) else if time now = false then (S, 0, 1)
 else
  let U := layAll n R.1 now l S 0
  ({ U.1 with was := U.1.now, l := [] }, U.2, 0)
def ring (fs : List Fl) (n : List UInt8) (i : Int) : List (Int × Int) × Int :=
 let R := info fs n
 if R.2 ≠ 0 then ([], R.2) else if i < 0 ∨ (R.1.l.length : Int) ≤ i then ([], 1)
 else ((List.range (R.1.cnt i.toNat).toNat).map fun (k : Nat) => pt (Vf.read fs n (R.1.offs i + 12 * (k : Int)) 12).1, 0)
structure Se where
 start : Int
 step : Int
 vals : List Vl
def clip (h : Hd) (now from_ : Int) : Int := max (max 0 from_) (now - h.span)
def fetch (fs : List Fl) (n : List UInt8) (now from_ until_ : Int) : Option Se × Int :=
 let R := info fs n
 if R.2 ≠ 0 then (none, R.2) else if time now = false then (none, 1)
 else if until_ < from_ ∨ now < from_ ∨ until_ < 0 ∨ until_ < now - R.1.span then (none, 7)
 else
  let f := clip R.1 now from_
  let u := min until_ now
  match first R.1 (now - f - 1) R.1.l.length 0 with
  | none => (none, 7)
  | some i =>
    let s := R.1.step i
    let a := Sl.al f s + s
    let e := if Sl.al u s + s ≤ a then a + s else Sl.al u s + s
    (some ⟨a, s, (List.range ((e - a) / s).toNat).map fun (k : Nat) => value fs n R.1 i (a + (k : Int) * s)⟩, 0)
end Wp
end
section
open Go.RowKit
open Me
theorem create_any {w : World} {G Gq : Nat → Prop} {fs : Nat} {lr : Option Nat} {S : Vf.Sv} {nv wv lv : Value} {ys : List Value} (h : Vf.At w G fs lr S nv wv lv ys) (n : List UInt8) (ps : List (List UInt8)) (pv : Value) (hp : Vf.Ps w Gq pv ps)
 (hl : S.now.length ≤ 1048576) (hll : S.l.length ≤ 1048576) (hu : Vf.used S.now ≤ 4294967296) (hr0 : 0 ≤ S.room) (hr1 : S.room ≤ 4294967296) (hpl : ps.length ≤ 1048576) (hpt : ps.flatten.length ≤ 4294967296) :
 Calls Tryz.prog 23 #[.pointer (some ⟨fs, 0, none⟩), .string ⟨n.toArray⟩, pv] w (Vf.Next w G fs lr (Vf.create S n ps.flatten)) := by
 have HRO := Lib.hid (rows_any ps pv Gq w hp hpl hpt)
 obtain ⟨Aq, cq, xq, rfl, _⟩ := hp
 have HFD : Hid (∀ W, Vf.At W G fs lr S nv wv lv ys → Calls Tryz.prog 35 #[nv, .string ⟨n.toArray⟩] W fun e w' => e = .returned (.int .i64 (Vf.ix S.now n)) ∧ W = w') := Lib.hid fun W hW => find_any S.now n nv G W hW.now hl
 have HIS := Lib.hid (is_any n)
 have HU : Hid (∀ W, Vf.At W G fs lr S nv wv lv ys → Calls Tryz.prog 50 #[.pointer (some ⟨fs, 0, none⟩)] W fun e w' => e = .returned (.int .i64 (Vf.used S.now : Int)) ∧ W = w') := Lib.hid fun W hW => used_any hW hl (by omega)
 have HD : Hid (∀ (W : World) (Gp : Nat → Prop) (bv : Value), Vf.At W G fs lr S nv wv lv ys → Bs W Gp bv ps.flatten → (∀ b, Gp b → b < W.heap.size ∧ b ≠ fs ∧ lr ≠ some b) → Calls Tryz.prog 51 #[.pointer (some ⟨fs, 0, none⟩), .agg #[.int .i64 1, .string ⟨n.toArray⟩, .int .i64 0, bv]] W (Vf.Done W G Gp fs lr S ⟨1, n, 0, ps.flatten⟩)) :=
  Lib.hid fun W Gp bv hW hb hGp => do_any hW ⟨1, n, 0, ps.flatten⟩ hb hGp hl hll (Lib.hid (fun h => by cases h)) (Lib.hid fun f hf => Nat.le_trans (Vf.used_mem hf) hu) (Nat.zero_le _)
 have HS : Hid (Vf.create S n ps.flatten = if Vf.is n = false then (S, 1) else if 0 ≤ Vf.ix S.now n then (S, 6) else if S.room - Vf.used S.now < ps.flatten.length then (S, 4) else (S.act ⟨1, n, 0, ps.flatten⟩, 0)) := Lib.hid rfl
 have H := Lib.hid h
 obtain ⟨A0, c00, xs0, hnv, _⟩ := h.now
 subst hnv
 have hfl := h.fsLt
 have HRW : Hid (∀ g, lr = some g → g < w.heap.size) := Lib.hid fun g hg => (h.own.lt g (h.row.trans hg)).2
 clear h
 obtain ⟨i1, i2⟩ := Vf.ix_bd S.now n
 cases hi : Vf.is n
 ·rw [hi] at HIS HS
  have HR : Hid (Vf.create S n ps.flatten = (S, 1)) := Lib.hid (by rw [HS.out]; rfl)
  clear HS HD HU HFD
  generalize ps.flatten = b at *
  go_enter Tryz.func23, Tryz.ntmps23
  go_wp2_with (first | (go_at_call 49; (with_reducible refine (HRO.out).mono ?_); rintro e w' ⟨bv, rfl, ⟨A1, cc1, rfl, hc1, hcm1, hrd1⟩, hb⟩; have HW := Lib.hid (H.out.below hb)) | (go_at_call 36; ((with_reducible refine (HIS.out _).mono ?_); rintro e w' ⟨rfl, rfl⟩)))
  go_ret
  exact Vf.Next.no HW.out hb HR.out
 ·rw [hi] at HIS HS
  by_cases hx : 0 ≤ Vf.ix S.now n
  ·have HR : Hid (Vf.create S n ps.flatten = (S, 6)) := Lib.hid (by rw [HS.out]; simp [hx])
   clear HS HD HU
   generalize ps.flatten = b at *
   generalize Vf.ix S.now n = i at *
   go_enter Tryz.func23, Tryz.ntmps23
   go_wp2_with (first | (go_at_call 49; (with_reducible refine (HRO.out).mono ?_); rintro e w' ⟨bv, rfl, ⟨A1, cc1, rfl, hc1, hcm1, hrd1⟩, hb⟩; have HW := Lib.hid (H.out.below hb); obtain ⟨d0, d1, d2, d3, df⟩ := HW.out.cells; clear df) | (go_at_call 36; ((with_reducible refine (HIS.out _).mono ?_); rintro e w' ⟨rfl, rfl⟩)) | (go_at_call 35; ((with_reducible refine (HFD.out _ HW.out).mono ?_); rintro e w' ⟨rfl, rfl⟩)))
   go_ret
   exact Vf.Next.no HW.out hb HR.out
  ·by_cases hm : S.room - Vf.used S.now < ps.flatten.length
   ·have HR : Hid (Vf.create S n ps.flatten = (S, 4)) := Lib.hid (by rw [HS.out, if_neg (by simp), if_neg hx, if_pos hm])
    clear HS HD
    generalize ps.flatten = b at *
    generalize Vf.ix S.now n = i at *
    generalize Vf.used S.now = u at *
    have hwr : IntKind.i64.wrap (S.room - (u : Int)) = S.room - (u : Int) := IntWalk.i64_in _ (by omega)
    go_enter Tryz.func23, Tryz.ntmps23
    go_wp2_with (first | (go_at_call 49; (with_reducible refine (HRO.out).mono ?_); rintro e w' ⟨bv, rfl, ⟨A1, cc1, rfl, hc1, hcm1, hrd1⟩, hb⟩; have HW := Lib.hid (H.out.below hb); obtain ⟨d0, d1, d2, d3, df⟩ := HW.out.cells; clear df) | (go_at_call 36; ((with_reducible refine (HIS.out _).mono ?_); rintro e w' ⟨rfl, rfl⟩)) | (go_at_call 35; ((with_reducible refine (HFD.out _ HW.out).mono ?_); rintro e w' ⟨rfl, rfl⟩)))
    go_region_with (go_at_call 50; refine (HU.out _ HW.out.drew).mono ?_; rintro e w2 ⟨rfl, rfl⟩)
    all_goals
     go_wp2_with fail
     go_ret
     exact Vf.Next.no HW.out.drew hb.drew HR.out
   ·have HR : Hid (Vf.create S n ps.flatten = (S.act ⟨1, n, 0, ps.flatten⟩, 0)) := Lib.hid (by rw [HS.out, if_neg (by simp), if_neg hx, if_neg hm])
    clear HS
    generalize ps.flatten = b at *
    generalize Vf.ix S.now n = i at *
    generalize Vf.used S.now = u at *
    have hwr : IntKind.i64.wrap (S.room - (u : Int)) = S.room - (u : Int) := IntWalk.i64_in _ (by omega)
    go_enter Tryz.func23, Tryz.ntmps23
    go_wp2_with (first | (go_at_call 49; (with_reducible refine (HRO.out).mono ?_); rintro e w' ⟨bv, rfl, ⟨A1, cc1, rfl, hc1, hcm1, hrd1⟩, hb⟩; have HW := Lib.hid (H.out.below hb); obtain ⟨d0, d1, d2, d3, df⟩ := HW.out.cells; clear df) | (go_at_call 36; ((with_reducible refine (HIS.out _).mono ?_); rintro e w' ⟨rfl, rfl⟩)) | (go_at_call 35; ((with_reducible refine (HFD.out _ HW.out).mono ?_); rintro e w' ⟨rfl, rfl⟩)))
    go_region_with (go_at_call 50; refine (HU.out _ HW.out.drew).mono ?_; rintro e w2 ⟨rfl, rfl⟩)
    all_goals
     have HDW := Lib.hid (HD.out w'.drew (fun i => w.heap.size ≤ i ∧ i < w'.heap.size) (.slice A1 b.length cc1) HW.out.drew ⟨A1, cc1, rfl, hc1, hcm1, (hrd1.mono (G' := fun i => w.heap.size ≤ i ∧ i < w'.heap.size) (fun i hi hg => ⟨hg, hi⟩)).keep (w' := w'.drew) (Nat.le_refl _) (fun _ _ _ => rfl)⟩ (fun i hi => ⟨hi.2, by omega, fun e => by have := HRW.out i e; omega⟩))
     go_wp2_with (go_at_call 51; (with_reducible refine (HDW.out).mono ?_); rintro e w' hd; obtain rfl := hd.1; have HDN := Lib.hid hd; clear hd)
     go_ret
     exact Vf.Next.done hb.drew (fun i hi => hi.1) HDN.out HR.out
end
section
open Go.RowKit
open Me Vf
namespace Wp
def RO (w : World) (V : Nat → Prop) (fs c : Nat) (S : Sv) : Prop :=
 ∃ G lr nv wv lv ys, At w G fs lr S nv wv lv ys ∧ Vf.Inv c S ∧ ∀ b, V b → b < w.heap.size ∧ ¬ G b ∧ b ≠ fs ∧ lr ≠ some b
theorem RO.below {w w' : World} {V : Nat → Prop} {fs c : Nat} {S : Sv} (h : RO w V fs c S) (b : Below w.heap.size w w') : RO w' V fs c S := by
 obtain ⟨G, lr, nv, wv, lv, ys, h1, h2, h3⟩ := h
 exact ⟨G, lr, nv, wv, lv, ys, h1.below b, h2, fun i hi => ⟨Nat.lt_of_lt_of_le (h3 i hi).1 b.size, (h3 i hi).2⟩⟩
theorem RO.add {w w' : World} {V V' : Nat → Prop} {fs c : Nat} {S : Sv} (h : RO w V fs c S) (b : Below w.heap.size w w') (hV : ∀ i, V' i → V i ∨ (w.heap.size ≤ i ∧ i < w'.heap.size)) : RO w' V' fs c S := by
 obtain ⟨G, lr, nv, wv, lv, ys, h1, h2, h3⟩ := h
 have hlr : ∀ g, lr = some g → g < w.heap.size := fun g hg => (h1.own.lt g (h1.row.trans hg)).2
 have hfs := h1.fsLt
 refine ⟨G, lr, nv, wv, lv, ys, h1.below b, h2, fun i hi => ?_⟩
 rcases hV i hi with hv | ⟨ha, hb⟩
 ·exact ⟨Nat.lt_of_lt_of_le (h3 i hv).1 b.size, (h3 i hv).2⟩
 ·exact ⟨hb, fun hg => by have := h1.lt i hg; omega, fun e => by omega, fun e => by have := hlr i e; omega⟩
theorem RO.more {w : World} {V V' : Nat → Prop} {fs c c' : Nat} {S : Sv} (h : RO w V fs c S) (hc : c ≤ c') (hV : ∀ i, V' i → V i) : RO w V' fs c' S := by
 obtain ⟨G, lr, nv, wv, lv, ys, h1, h2, h3⟩ := h
 exact ⟨G, lr, nv, wv, lv, ys, h1, h2.mono hc, fun i hi => h3 i (hV i hi)⟩
theorem RO.of_next {w w' : World} {V G : Nat → Prop} {fs c' : Nat} {lr : Option Nat} {S : Sv} {R : Sv × Int} {nv wv lv : Value} {ys : List Value} {e : Ending} (h1 : At w G fs lr S nv wv lv ys) (h3 : ∀ b, V b → b < w.heap.size ∧ ¬ G b ∧ b ≠ fs ∧ lr ≠ some b)
 (hi : Vf.Inv c' R.1) (hn : Vf.Next w G fs lr R e w') : e = .returned (.int .i64 R.2) ∧ RO w' V fs c' R.1 ∧ Kp (fun b => ¬ V b) w w' := by
 obtain ⟨rfl, G', lr', nv', wv', lv', ys', q1, q2, q3, q4⟩ := hn
 refine ⟨rfl, ⟨G', lr', nv', wv', lv', ys', q1, hi, fun b hb => ⟨Nat.lt_of_lt_of_le (h3 b hb).1 q2.size, fun hg => ?_, (h3 b hb).2.2.1, fun e => ?_⟩⟩, q2.mono fun b _ ho hv => ?_⟩
 ·rcases q3 b hg with h | h
  ·exact (h3 b hb).2.1 h
  ·have := (h3 b hb).1; omega
 ·rcases q4 b e with h | h
  ·exact (h3 b hb).2.2.2 h
  ·have := (h3 b hb).1; omega
 ·rcases ho with rfl | e
  ·exact (h3 b hv).2.2.1 rfl
  ·exact (h3 b hv).2.2.2 e
end Wp
open Wp
section
variable {w : World} {V : Nat → Prop} {fs c : Nat} {S : Sv}
theorem rosize (h : RO w V fs c S) (hc : c ≤ 1000000) (n : List UInt8) :
 Calls Tryz.prog 12 #[.pointer (some ⟨fs, 0, none⟩), .string ⟨n.toArray⟩] w fun e w' => e = .returned (.tuple #[.int .i64 (Vf.size S.now n).1, .int .i64 (Vf.size S.now n).2]) ∧ w = w' := by
 obtain ⟨G, lr, nv, wv, lv, ys, h1, h2, h3⟩ := h
 have := h2.last
 exact size_any h1 n (by omega)
theorem roread (h : RO w V fs c S) (hc : c ≤ 1000000) (n : List UInt8) (t m : Int) :
 Calls Tryz.prog 13 #[.pointer (some ⟨fs, 0, none⟩), .string ⟨n.toArray⟩, .int .i64 t, .int .i64 m] w (Vf.Handed w (Vf.read S.now n t m)) := by
 obtain ⟨G, lr, nv, wv, lv, ys, h1, h2, h3⟩ := h
 have := h2.last
 have := h2.room1
 exact read_any h1 n t m (by omega) (by omega)
theorem rowrite (h : RO w V fs c S) (hc : c ≤ 1000000) (n : List UInt8) (t : Int) (ps : List (List UInt8)) (pv : Value) {Gq : Nat → Prop} (hp : Vf.Ps w Gq pv ps) (hpl : ps.length ≤ 1048576) (hpt : ps.flatten.length ≤ 1048576) :
 Calls Tryz.prog 91 #[.pointer (some ⟨fs, 0, none⟩), .string ⟨n.toArray⟩, .int .i64 t, pv] w fun e w' => e = .returned (.int .i64 (Vf.write S n t ps.flatten).2) ∧ RO w' V fs (c + 1) (Vf.write S n t ps.flatten).1 ∧ Kp (fun b => ¬ V b) w w' := by
 obtain ⟨G, lr, nv, wv, lv, ys, h1, h2, h3⟩ := h
 have i1 := h2.last
 have i2 := h2.room1
 have i3 := h2.len
 exact (write_any h1 n t ps pv hp (by omega) (by omega) (by omega) hpl (by omega)).mono fun e w' hn => RO.of_next h1 h3 (h2.write _ _ _) hn
theorem rocreate (h : RO w V fs c S) (hc : c ≤ 1000000) (n : List UInt8) (ps : List (List UInt8)) (pv : Value) {Gq : Nat → Prop} (hp : Vf.Ps w Gq pv ps) (hpl : ps.length ≤ 1048576) (hpt : ps.flatten.length ≤ 4194304) :
 Calls Tryz.prog 23 #[.pointer (some ⟨fs, 0, none⟩), .string ⟨n.toArray⟩, pv] w fun e w' => e = .returned (.int .i64 (Vf.create S n ps.flatten).2) ∧ RO w' V fs (c + 1) (Vf.create S n ps.flatten).1 ∧ Kp (fun b => ¬ V b) w w' := by
 obtain ⟨G, lr, nv, wv, lv, ys, h1, h2, h3⟩ := h
 have i1 := h2.last
 have i0 := h2.room0
 have i2 := h2.room1
 have i3 := h2.len
 exact (create_any h1 n ps pv hp (by omega) (by omega) (by omega) i0 (by omega) hpl (by omega)).mono fun e w' hn => RO.of_next h1 h3 (h2.create _ _) hn
theorem rosync (h : RO w V fs c S) :
 Calls Tryz.prog 24 #[.pointer (some ⟨fs, 0, none⟩)] w fun e w' => e = .returned (.tuple #[]) ∧ RO w' V fs c { S with was := S.now, l := [] } ∧ Kp (fun b => ¬ V b) w w' := by
 obtain ⟨G, lr, nv, wv, lv, ys, h1, h2, h3⟩ := h
 refine (sync_any h1).mono ?_
 rintro e w2 ⟨rfl, r1, r2⟩
 exact ⟨rfl, ⟨G, none, _, _, _, _, r1, h2.sync, fun b hb => ⟨Nat.lt_of_lt_of_le (h3 b hb).1 r2.size, (h3 b hb).2.1, (h3 b hb).2.2.1, fun e => nomatch e⟩⟩, r2.mono fun b _ ho hv => (h3 b hv).2.2.1 ho⟩
end
end
section
open Go.RowKit Go.Sort
open Wh (At)
theorem side_any (s c t d : Int) (h1 : 1 ≤ s) (h2 : s ≤ 16777216) (h3 : 1 ≤ c) (h4 : c ≤ 16777216) (h5 : 1 ≤ t) (h6 : t ≤ 16777216) (h7 : 1 ≤ d) (h8 : d ≤ 16777216) (w : World) :
 Calls Tryz.prog 46 #[.agg #[.int .i64 s, .int .i64 c], .agg #[.int .i64 t, .int .i64 d]] w fun e w' => e = .returned (.bool (Wh.fol (s, c) (t, d))) ∧ Below w.heap.size w w' := by
 obtain ⟨kc, kf⟩ := kgrown ((w.alloc (.cells #[.int .i64 s, .int .i64 c] 56)).alloc (.cells #[.int .i64 t, .int .i64 d] 56))
 have bs := Wh.mul_bd h1 h2 h3 h4
 have bt := Wh.mul_bd h5 h6 h7 h8
 have hw1 : IntKind.i64.wrap (s * c) = s * c := IntWalk.i64_in _ (by omega)
 have hw2 : IntKind.i64.wrap (t * d) = t * d := IntWalk.i64_in _ (by omega)
 have hm : t.tmod s = t % s := Int.tmod_eq_emod_of_nonneg (by omega)
 have hd : t.tdiv s = t / s := Int.tdiv_eq_ediv_of_nonneg (by omega)
 have hz : (s == 0) = false := by simp; omega
 have hdb : 0 ≤ t / s ∧ t / s ≤ t := ⟨Int.ediv_nonneg (by omega) (by omega), Int.ediv_le_self _ (by omega)⟩
 have hdw : IntKind.i64.wrap (t / s) = t / s := IntWalk.i64_in _ (by omega)
 by_cases g1 : t ≤ s
 ·have H := Lib.hid (Wh.fol_1 (a := (s, c)) (b := (t, d)) g1)
  have e1 : decide (s < t) = false := decide_eq_false (by omega)
  go_enter Tryz.func46, Tryz.ntmps46
  go_wp2_with fail
  refine wp_region_quiet_below (by kernel_rfl) (by kernel_rfl) ?_
  repeat (go_big_quiet_step (fail))
  refine wpQuiet_nil ?_
  intro _ hw'
  obtain ⟨⟨dq, osq⟩, hw''⟩ := hw'
  subst hw''
  go_wp2
  go_ret
  exact ⟨by rw [H.out]; rfl, Bq⟩
 ·have e1 : decide (s < t) = true := decide_eq_true (by omega)
  by_cases g2 : t % s = 0
  ·have e2 : (t % s == 0) = true := by simp [g2]
   by_cases g3 : t * d ≤ s * c
   ·have H := Lib.hid (Wh.fol_3 (a := (s, c)) (b := (t, d)) g3)
    have e3 : decide (s * c < t * d) = false := decide_eq_false (by omega)
    clear g2
    go_enter Tryz.func46, Tryz.ntmps46
    go_wp2_with fail
    refine wp_region_quiet_below (by kernel_rfl) (by kernel_rfl) ?_
    repeat (go_big_quiet_step (fail))
    refine wpQuiet_nil ?_
    intro _ hw'
    obtain ⟨⟨dq, osq⟩, hw''⟩ := hw'
    subst hw''
    go_wp2
    go_ret
    exact ⟨by rw [H.out]; rfl, Bq⟩
   ·have H := Lib.hid (Wh.fol_4 (a := (s, c)) (b := (t, d)) (by show s < t; omega) g2 (by show s * c < t * d; omega))
    have e3 : decide (s * c < t * d) = true := decide_eq_true (by omega)
    clear g2
    go_enter Tryz.func46, Tryz.ntmps46
    go_wp2_with fail
    refine wp_region_quiet_below (by kernel_rfl) (by kernel_rfl) ?_
    repeat (go_big_quiet_step (fail))
    refine wpQuiet_nil ?_
    intro _ hw'
    obtain ⟨⟨dq, osq⟩, hw''⟩ := hw'
    subst hw''
    go_wp2
    go_ret
    exact ⟨by rw [H.out]; rfl, Bq⟩
  ·have H := Lib.hid (Wh.fol_2 (a := (s, c)) (b := (t, d)) g2)
   have e2 : (t % s == 0) = false := by simp [g2]
   clear g2
   go_enter Tryz.func46, Tryz.ntmps46
   go_wp2_with fail
   refine wp_region_quiet_below (by kernel_rfl) (by kernel_rfl) ?_
   repeat (go_big_quiet_step (fail))
   refine wpQuiet_nil ?_
   intro _ hw'
   obtain ⟨⟨dq, osq⟩, hw''⟩ := hw'
   subst hw''
   go_wp2
   go_ret
   exact ⟨by rw [H.out]; rfl, Bq⟩
end
section
open Go.RowKit Go.Sort
open Wh (At)
theorem Wh.av_run {l : List (Int × Int)} {k : Nat} (hk : k ≤ l.length) (h : 1048576 < Wh.run l k)   : Wh.av l = false := by
 cases ha : Wh.alls l l.length
 ·unfold Wh.av; simp [ha]
 ·have := Wh.run_le (Wh.alls_cnt ha) k hk
  exact Wh.av_big (by omega)
theorem lowBox {w W : World} {o : Obj} (h : Below (w.heap.size + 1) (w.alloc o) W) : Below w.heap.size w W := ((Below.refl _ _).alloc (Nat.le_refl _) _).trans (h.mono (Nat.le_succ _))
theorem may_some (ag xf : Int) (g1 : 1 ≤ ag) (g2 : ag ≤ 5) (x1 : 0 ≤ xf) (x2 : xf ≤ 1000000) (l : List (Int × Int)) (b off cap : Nat) (w : World) (hA : Ars w b off l) (hcap : l.length ≤ cap) (h1 : 1 ≤ l.length) (h8 : l.length ≤ 8) :
 Calls Tryz.prog 20 #[.agg #[.int .i64 ag, .int .i64 xf, .slice (some ⟨b, off, none⟩) l.length cap]] w fun e w' => e = .returned (.bool (Wh.av l)) ∧ Below w.heap.size w w' := by
 have HF : Hid (∀ k, k < l.length → Wh.stp l k = false → Wh.av l = false) := Lib.hid fun k hk h => Wh.av_stp hk h
 have HA := Lib.hid hA
 have H1 : Hid (∀ k, Wh.num (At l k).1 = false → Wh.stp l k = false) := Lib.hid fun k => Wh.stp_f1
 have H2 : Hid (∀ k, Wh.num (At l k).2 = false → Wh.stp l k = false) := Lib.hid fun k => Wh.stp_f2
 have H3 : Hid (∀ k, 0 < k → Wh.fol (At l (k - 1)) (At l k) = false → Wh.stp l k = false) := Lib.hid fun k => Wh.stp_f3
 have HT : Hid (∀ k, Wh.alls l k = true → Wh.num (At l k).1 = true → Wh.num (At l k).2 = true → (k = 0 ∨ Wh.fol (At l (k - 1)) (At l k) = true) → Wh.alls l (k + 1) = true) := Lib.hid fun k h h1 h2 h3 => Wh.alls_succ h (Wh.stp_t h1 h2 h3)
 have HB : Hid (∀ k m, k < m → Wh.alls l m = true → (1 ≤ (At l k).1 ∧ (At l k).1 ≤ 16777216) ∧ (1 ≤ (At l k).2 ∧ (At l k).2 ≤ 16777216)) := Lib.hid fun k m => Wh.alls_num
 have HU : Hid (∀ k, Wh.run l (k + 1) = Wh.run l k + 12 + 12 * (At l k).2) := Lib.hid fun k => Wh.run_succ l k
 have HG : Hid (∀ k, k ≤ l.length → 1048576 < Wh.run l k → Wh.av l = false) := Lib.hid fun k hk h => Wh.av_run hk h
 have HZ : Hid (Wh.run l 0 = 16) := Lib.hid (Wh.run_zero l)
 have HN : Hid (∀ k, 16 ≤ Wh.run l k ∧ Wh.run l k ≤ 1048576 → 16 ≤ Wh.run l k ∧ Wh.run l k ≤ 1048576) := Lib.hid fun _ h => h
 clear hA
 go_enter Tryz.func20, Tryz.ntmps20
 go_wp2
 go_loopw [3, 4] (fun n i wr => ∃ j : Nat, j ≤ l.length ∧ i = .int .i64 j ∧ n = .int .i64 (Wh.run l j) ∧ Hid (Wh.alls l j = true) ∧ (16 ≤ Wh.run l j ∧ Wh.run l j ≤ 1048576) ∧ Below (w.heap.size + 1) (w.alloc (.cells #[.int .i64 ag, .int .i64 xf, .slice (some ⟨b, off, none⟩) l.length cap] 24)) wr) (fun _ i _ => l.length - (intOf i).toNat)
 case atStart => exact ⟨0, Nat.zero_le _, rfl, by rw [HZ.out], Lib.hid rfl, by rw [HZ.out]; omega, Below.refl _ _⟩
 case round =>
  obtain ⟨j, hj, rfl, rfl, hal, hrn, hR⟩ := hrel
  have hx2 : wr.cell? ⟨w.heap.size, 2, none⟩ = some (.slice (some ⟨b, off, none⟩) l.length cap) := (hR.cell (p := ⟨w.heap.size, 2, none⟩) (Nat.lt_succ_self _)).trans (by simp [go_sem])
  have hsz : w.heap.size < wr.heap.size := by have := hR.size; simp at this; omega
  have hAr := HA.out.below (lowBox hR)
  have hbl := hAr.lt
  have HR := Lib.hid hR
  clear hR HN
  by_cases hlt : j < l.length
  ·have c0 := hAr.st j hlt
   have c1 := hAr.ct j hlt
   have HJ := Lib.hid (HF.out j hlt)
   have HJ1 := Lib.hid (H1.out j)
   have HJ2 := Lib.hid (H2.out j)
   have HJ3 := Lib.hid (H3.out j)
   have HJT := Lib.hid (HT.out j hal.out)
   have HJU := Lib.hid (HU.out j)
   have HJG : Hid (1048576 < Wh.run l j + 12 + 12 * (At l j).2 → Wh.av l = false) := Lib.hid fun h => HG.out (j + 1) (by omega) (by rw [HU.out]; exact h)
   have hp : (∀ m, j = m + 1 → (1 ≤ (At l m).1 ∧ (At l m).1 ≤ 16777216) ∧ (1 ≤ (At l m).2 ∧ (At l m).2 ≤ 16777216)) := fun m e => HB.out m j (by omega) hal.out
   have HP := Lib.hid hp
   have HPC : Hid (∀ m, j = m + 1 → wr.cell? ⟨b, off + m * 2, none⟩ = some (.int .i64 (At l m).1) ∧ wr.cell? ⟨b, off + m * 2 + 1, none⟩ = some (.int .i64 (At l m).2)) := Lib.hid fun m e => ⟨hAr.st m (by omega), hAr.ct m (by omega)⟩
   clear hp hAr HF HA H1 H2 H3 HT HB HU HG HZ hal
   by_cases k1 : (At l j).1 < 1
   ·have HQ := Lib.hid (HJ.out (HJ1.out (by unfold Wh.num; simp; omega)))
    have d1 : decide ((At l j).1 < 1) = true := decide_eq_true k1
    clear HJ HJ1 HJ2 HJ3 HJT HJU HJG HP HPC
    generalize At l j = a at *
    obtain ⟨s, c⟩ := a
    dsimp only at *
    go_wp2_with fail
    obtain ⟨kc, kf⟩ := kgrown (wr.alloc (.cells #[.int .i64 s, .int .i64 c] 56))
    refine wp_region_quiet_below (by kernel_rfl) (by kernel_rfl) ?_
    repeat (go_big_quiet_step (fail))
    refine wpQuiet_nil ?_
    intro _ hw'
    obtain ⟨⟨dq, osq⟩, hw''⟩ := hw'
    subst hw''
    go_wp2
    go_ret
    exact ⟨by rw [HQ.out]; rfl, (HR.out.alloc (by have := HR.out.size; simp at this; omega) _).trans ((below_regrown _ _ _).mono (by have := HR.out.size; simp at this ⊢; omega)) |> lowBox⟩
   have d1 : decide ((At l j).1 < 1) = false := decide_eq_false k1
   by_cases k2 : 16777216 < (At l j).1
   ·have HQ := Lib.hid (HJ.out (HJ1.out (by unfold Wh.num; simp; omega)))
    have d2 : decide (16777216 < (At l j).1) = true := decide_eq_true k2
    clear HJ HJ1 HJ2 HJ3 HJT HJU HJG HP HPC
    generalize At l j = a at *
    obtain ⟨s, c⟩ := a
    dsimp only at *
    go_wp2_with fail
    obtain ⟨kc, kf⟩ := kgrown (wr.alloc (.cells #[.int .i64 s, .int .i64 c] 56))
    refine wp_region_quiet_below (by kernel_rfl) (by kernel_rfl) ?_
    repeat (go_big_quiet_step (fail))
    refine wpQuiet_nil ?_
    intro _ hw'
    obtain ⟨⟨dq, osq⟩, hw''⟩ := hw'
    subst hw''
    go_wp2
    go_ret
    exact ⟨by rw [HQ.out]; rfl, (HR.out.alloc (by have := HR.out.size; simp at this; omega) _).trans ((below_regrown _ _ _).mono (by have := HR.out.size; simp at this ⊢; omega)) |> lowBox⟩
   have d2 : decide (16777216 < (At l j).1) = false := decide_eq_false k2
   by_cases k3 : (At l j).2 < 1
   ·have HQ := Lib.hid (HJ.out (HJ2.out (by unfold Wh.num; simp; omega)))
    have d3 : decide ((At l j).2 < 1) = true := decide_eq_true k3
    clear HJ HJ1 HJ2 HJ3 HJT HJU HJG HP HPC
    generalize At l j = a at *
    obtain ⟨s, c⟩ := a
    dsimp only at *
    go_wp2_with fail
    obtain ⟨kc, kf⟩ := kgrown (wr.alloc (.cells #[.int .i64 s, .int .i64 c] 56))
    refine wp_region_quiet_below (by kernel_rfl) (by kernel_rfl) ?_
    repeat (go_big_quiet_step (fail))
    refine wpQuiet_nil ?_
    intro _ hw'
    obtain ⟨⟨dq, osq⟩, hw''⟩ := hw'
    subst hw''
    go_wp2
    go_ret
    exact ⟨by rw [HQ.out]; rfl, (HR.out.alloc (by have := HR.out.size; simp at this; omega) _).trans ((below_regrown _ _ _).mono (by have := HR.out.size; simp at this ⊢; omega)) |> lowBox⟩
   have d3 : decide ((At l j).2 < 1) = false := decide_eq_false k3
   by_cases k4 : 16777216 < (At l j).2
   ·have HQ := Lib.hid (HJ.out (HJ2.out (by unfold Wh.num; simp; omega)))
    have d4 : decide (16777216 < (At l j).2) = true := decide_eq_true k4
    clear HJ HJ1 HJ2 HJ3 HJT HJU HJG HP HPC
    generalize At l j = a at *
    obtain ⟨s, c⟩ := a
    dsimp only at *
    go_wp2_with fail
    obtain ⟨kc, kf⟩ := kgrown (wr.alloc (.cells #[.int .i64 s, .int .i64 c] 56))
    refine wp_region_quiet_below (by kernel_rfl) (by kernel_rfl) ?_
    repeat (go_big_quiet_step (fail))
    refine wpQuiet_nil ?_
    intro _ hw'
    obtain ⟨⟨dq, osq⟩, hw''⟩ := hw'
    subst hw''
    go_wp2
    go_ret
    exact ⟨by rw [HQ.out]; rfl, (HR.out.alloc (by have := HR.out.size; simp at this; omega) _).trans ((below_regrown _ _ _).mono (by have := HR.out.size; simp at this ⊢; omega)) |> lowBox⟩
   have d4 : decide (16777216 < (At l j).2) = false := decide_eq_false k4
   have q1 : 1 ≤ (At l j).1 := by omega
   have q2 : (At l j).1 ≤ 16777216 := by omega
   have q3 : 1 ≤ (At l j).2 := by omega
   have q4 : (At l j).2 ≤ 16777216 := by omega
   have HJT := Lib.hid (HJT.out (Wh.num_t q1 q2) (Wh.num_t q3 q4))
   clear k1 k2 k3 k4
   cases j with
   | zero =>
     have HQ := Lib.hid (HJT.out (.inl rfl))
     simp only [Nat.zero_mul, Nat.add_zero] at c0 c1
     clear HJ HJ1 HJ2 HJ3 HJT HP HPC
     generalize Wh.run l 0 = q at *
     generalize At l 0 = a at *
     obtain ⟨s, c⟩ := a
     dsimp only at *
     by_cases k5 : 1048576 < q + 12 + 12 * c
     ·have HQ := Lib.hid (HJG.out k5)
      clear HJG
      go_wp2_with fail
      obtain ⟨kc, kf⟩ := kgrown (wr.alloc (.cells #[.int .i64 s, .int .i64 c] 56))
      refine wp_region_quiet_below (by kernel_rfl) (by kernel_rfl) ?_
      repeat (go_big_quiet_step (fail))
      refine wpQuiet_nil ?_
      intro _ hw'
      obtain ⟨⟨dq, osq⟩, hw''⟩ := hw'
      subst hw''
      go_wp2
      go_ret
      exact ⟨by rw [HQ.out]; rfl, lowBox ((HR.out.alloc (by have := HR.out.size; simp at this; omega) _).trans ((below_regrown _ _ _).mono (by have := HR.out.size; simp at this ⊢; omega)))⟩
     ·clear HJG
      go_wp2_with fail
      obtain ⟨kc, kf⟩ := kgrown (wr.alloc (.cells #[.int .i64 s, .int .i64 c] 56))
      refine wp_region_quiet_below (by kernel_rfl) (by kernel_rfl) ?_
      repeat (go_big_quiet_step (fail))
      refine wpQuiet_nil ?_
      intro _ hw'
      obtain ⟨⟨dq, osq⟩, hw''⟩ := hw'
      subst hw''
      go_wp2
      go_roundw
      case rel => exact ⟨1, by omega, by go_num, by rw [HJU.out], HQ, by rw [HJU.out]; omega, (HR.out.alloc (by have := HR.out.size; simp at this; omega) _).trans ((below_regrown _ _ _).mono (by have := HR.out.size; simp at this ⊢; omega))⟩
      case measure => simp [intOf]; omega
   | succ m =>
     obtain ⟨⟨p1, p2⟩, p3, p4⟩ := HP.out m rfl
     obtain ⟨e0, e1⟩ := HPC.out m rfl
     have HK3 : Hid (Wh.fol (At l m) (At l (m + 1)) = false → Wh.av l = false) := Lib.hid fun h => HJ.out (HJ3.out (by omega) h)
     have HKT : Hid (Wh.fol (At l m) (At l (m + 1)) = true → Wh.alls l (m + 1 + 1) = true) := Lib.hid fun h => HJT.out (.inr h)
     have hg : decide ((0 : Int) < (m : Int) + 1) = true := decide_eq_true (by omega)
     have HFO := Lib.hid (side_any (At l m).1 (At l m).2 (At l (m + 1)).1 (At l (m + 1)).2 p1 p2 p3 p4 q1 q2 q3 q4)
     have hml : m + 1 ≤ l.length := by omega
     clear HJ HJ1 HJ2 HJ3 HJT HP HPC
     generalize Wh.run l (m + 1) = q at *
     generalize At l (m + 1) = a at *
     generalize At l m = a0 at *
     obtain ⟨s, c⟩ := a
     obtain ⟨s0, cc⟩ := a0
     dsimp only at *
     cases hfo : Wh.fol (s0, cc) (s, c)
     ·have HQ := Lib.hid (HK3.out hfo)
      clear HK3 HKT
      go_wp2_with fail
      obtain ⟨kc, kf⟩ := kgrown (wr.alloc (.cells #[.int .i64 s, .int .i64 c] 56))
      refine wp_region_quiet_below (by kernel_rfl) (by kernel_rfl) ?_
      repeat (go_big_quiet_step ((go_at_call 46; exact Calls.regrown_of (HFO.out _))))
      refine wpQuiet_nil ?_
      intro _ hw'
      obtain ⟨⟨dq, osq⟩, hw''⟩ := hw'
      subst hw''
      go_wp2
      go_ret
      exact ⟨by rw [HQ.out]; rfl, lowBox ((HR.out.alloc (by have := HR.out.size; simp at this; omega) _).trans ((below_regrown _ _ _).mono (by have := HR.out.size; simp at this ⊢; omega)))⟩
     ·have HQ := Lib.hid (HKT.out hfo)
      clear HK3 HKT
      by_cases k5 : 1048576 < q + 12 + 12 * c
      ·have HQ := Lib.hid (HJG.out k5)
       clear HJG
       go_wp2_with fail
       obtain ⟨kc, kf⟩ := kgrown (wr.alloc (.cells #[.int .i64 s, .int .i64 c] 56))
       refine wp_region_quiet_below (by kernel_rfl) (by kernel_rfl) ?_
       repeat (go_big_quiet_step ((go_at_call 46; exact Calls.regrown_of (HFO.out _))))
       refine wpQuiet_nil ?_
       intro _ hw'
       obtain ⟨⟨dq, osq⟩, hw''⟩ := hw'
       subst hw''
       go_wp2
       go_ret
       exact ⟨by rw [HQ.out]; rfl, lowBox ((HR.out.alloc (by have := HR.out.size; simp at this; omega) _).trans ((below_regrown _ _ _).mono (by have := HR.out.size; simp at this ⊢; omega)))⟩
      ·clear HJG
       go_wp2_with fail
       obtain ⟨kc, kf⟩ := kgrown (wr.alloc (.cells #[.int .i64 s, .int .i64 c] 56))
       refine wp_region_quiet_below (by kernel_rfl) (by kernel_rfl) ?_
       repeat (go_big_quiet_step ((go_at_call 46; exact Calls.regrown_of (HFO.out _))))
       refine wpQuiet_nil ?_
       intro _ hw'
       obtain ⟨⟨dq, osq⟩, hw''⟩ := hw'
       subst hw''
       go_wp2
       go_roundw
       case rel => exact ⟨m + 1 + 1, by omega, by go_num, by rw [HJU.out], HQ, by rw [HJU.out]; omega, (HR.out.alloc (by have := HR.out.size; simp at this; omega) _).trans ((below_regrown _ _ _).mono (by have := HR.out.size; simp at this ⊢; omega))⟩
       case measure => simp [intOf]; omega
  ·obtain rfl : j = l.length := by omega
   obtain ⟨k, hk⟩ : ∃ k, l.length = k + 1 := ⟨l.length - 1, by omega⟩
   have c0 := hAr.st k (by omega)
   have c1 := hAr.ct k (by omega)
   obtain ⟨⟨p1, p2⟩, p3, p4⟩ := HB.out k l.length (by omega) hal.out
   have HQ : Hid (Wh.av l = decide ((At l k).1 * (At l k).2 ≤ 4294967295)) := Lib.hid (by
    have := Wh.av_end h1 h8 hal.out hrn.2
    rw [this]
    unfold Wh.lsp
    rw [hk]
    rfl)
   have bm := Wh.mul_bd p1 p2 p3 p4
   have hw : IntKind.i64.wrap ((At l k).1 * (At l k).2) = (At l k).1 * (At l k).2 := IntWalk.i64_in _ (by omega)
   clear hAr HF HA H1 H2 H3 HT HB HU HG HZ hal
   generalize hls : l.length = n at *
   have HLS := Lib.hid hls
   clear hls
   subst hk
   generalize At l k = a at *
   obtain ⟨s, c⟩ := a
   dsimp only at *
   generalize hmu : s * c = mu at *
   have HMU := Lib.hid hmu
   clear hmu
   have hw2 : IntKind.i64.wrap (s * c) = mu := by rw [HMU.out]; exact hw
   go_wp2
   go_ret
   exact ⟨by rw [HQ.out]; rfl, lowBox (HR.out.alloc (by have := HR.out.size; simp at this; omega) _)⟩
end
end Go.Proofs.YtljlanhpjpjgaaaGreatDoor
