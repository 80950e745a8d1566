/- WsKn WsSm WqFo WsKf WsKx WqRi WsNo WpFeB WpFeT WpFeS WpFeY WsDx WsAc WsAc1 WsAc2 WsAc3 WsAc4 WsBy WtAsk -/
import Derived.Test.YtljlanhpjpjgaaaGreatDoorJ1
import Derived.Test.YtljlanhpjpjgaaaGreatDoorJ42
import Derived.Test.YtljlanhpjpjgaaaGreatDoorJ43
import Derived.Test.YtljlanhpjpjgaaaGreatDoorJ21
import Derived.Test.YtljlanhpjpjgaaaGreatDoorJ27
import Derived.Test.YtljlanhpjpjgaaaGreatDoorJ14
import Derived.Test.YtljlanhpjpjgaaaGreatDoorJ8
import Derived.Test.YtljlanhpjpjgaaaGreatDoorJ24
import Derived.Test.YtljlanhpjpjgaaaGreatDoorJ34
import Derived.Test.YtljlanhpjpjgaaaGreatDoorJ36
import Derived.Test.YtljlanhpjpjgaaaGreatDoorJ35
import Derived.Test.YtljlanhpjpjgaaaGreatDoorJ26
import Derived.Test.YtljlanhpjpjgaaaGreatDoorJ25
import Derived.RegionTactic
import Derived.Deep.RegionHeld3
import Derived.Test.YtljlanhpjpjgaaaGreatDoorJ28
namespace Go.Proofs.YtljlanhpjpjgaaaGreatDoor
set_option maxRecDepth 100000
set_option maxHeartbeats 8000000
section
open Go.RowKit Go.Sort
open Fx (Vl)
open Me
open Wp
def Ws.Kw (w0 : World) (fs c : Nat) (S : Vf.Sv) (W : World) : Prop := Below w0.heap.size w0 W ∧ ∃ V, PO W V fs c S ∧ ∀ b, b < w0.heap.size → V b
open Ws
theorem Ws.new_any (w : World) : Calls Tryz.prog 9 #[.int .i64 65536] w fun e w' => e = .returned (.tuple #[.pointer (some ⟨w.heap.size, 0, none⟩), .int .i64 0]) ∧ Hid (Kw w w.heap.size 0 ⟨65536, [], [], []⟩ w') := by
 refine (pnew_any 65536 w (by decide) (by decide)).mono ?_
 rintro e w' ⟨rfl, ⟨M, h1, h2⟩, h3⟩
 exact ⟨rfl, Lib.hid ⟨h3, fun b => b < w.heap.size, ⟨M, h1, Vf.Inv.new (by decide) (by decide), fun b hb => ⟨Nat.lt_of_lt_of_le hb h3.size, fun hm => Nat.not_lt.2 (h2 b hm) hb⟩⟩, fun b hb => hb⟩⟩
theorem Ws.Kw.create {w0 W W1 : World} {fs c : Nat} {S : Vf.Sv} (h : Kw w0 fs c S W) (hb : Below W.heap.size W W1) (hc : c ≤ 499000) (n : List UInt8) (hd : Hd) (A : Option Addr) (cap : Nat) (hrow : Row W1 A hd.l cap) :
 Calls Tryz.prog 10 #[.pointer (some ⟨fs, 0, none⟩), .string ⟨n.toArray⟩, .agg #[.int .i64 hd.ag, .int .i64 hd.xf, .slice A hd.l.length cap]] W1 fun e w' => e = .returned (.int .i64 (Wp.create S n hd).2) ∧ Hid (Kw w0 fs (c + 1) (Wp.create S n hd).1 w') := by
 obtain ⟨h1, V, h2, h3⟩ := h
 refine (create_yes_any (h2.below hb) hc n hd A cap hrow).mono ?_
 rintro e w' ⟨rfl, p, k⟩
 exact ⟨rfl, Lib.hid ⟨(h1.trans (hb.mono h1.size)).trans (k.below (Nat.le_trans h1.size hb.size) (fun i hi ho => ho (h3 i hi))), V, p, h3⟩⟩
theorem Ws.Kw.update {w0 W W1 : World} {fs c : Nat} {S : Vf.Sv} (h : Kw w0 fs c S W) (hg : Gv w0) (hb : Below W.heap.size W W1) (n : List UInt8) (now : Int) (l : List (Int × Int)) (Ap : Option Addr) (capp : Nat) (hp : Row W1 Ap l capp)
 (hVp : ∀ a, Ap = some a → a.block < w0.heap.size ∨ (W.heap.size ≤ a.block ∧ a.block < W1.heap.size)) (hc : c + 27 * l.length ≤ 497000) :
 Calls Tryz.prog 11 #[.pointer (some ⟨fs, 0, none⟩), .string ⟨n.toArray⟩, .int .i64 now, .slice Ap l.length capp] W1 fun e w' => e = .returned (.tuple #[.int .i64 (update S n now l).2.1, .int .i64 (update S n now l).2.2]) ∧ Hid (Kw w0 fs (c + 27 * l.length) (update S n now l).1 w') := by
 obtain ⟨h1, V, h2, h3⟩ := h
 have h4 : Below w0.heap.size w0 W1 := h1.trans (hb.mono h1.size)
 refine (update_any7 (V := fun i => V i ∨ (W.heap.size ≤ i ∧ i < W1.heap.size)) (h2.add hb (fun i hi => hi)) (hg.below h4) (.inl (h3 0 hg.lt)) n now l Ap capp hp ?_ hc).mono ?_
 ·intro _ a e
  rcases hVp a e with h | h
  ·exact .inl (h3 _ h)
  ·exact .inr h
 ·rintro e w' ⟨rfl, p, k⟩
  exact ⟨rfl, Lib.hid ⟨h4.trans (k.below h4.size (fun i hi ho => ho (.inl (h3 i hi)))), V, p.more (Nat.le_refl _) (fun i hi => .inl hi), h3⟩⟩
theorem Ws.Kw.fetch_in {w0 W : World} {fs c : Nat} {S : Vf.Sv} (h : Kw w0 fs c S W) (n : List UInt8) (hnl : n.length ≤ 1048576) (now from_ until_ : Int) (h0 : (info S.now n).2 = 0) (hn1 : 1 ≤ now) (hn2 : now ≤ 4294967295) (ht : ¬ (until_ < from_ ∨ now < from_ ∨ until_ < 0 ∨ until_ < now - (info S.now n).1.span)) :
 Calls Tryz.prog 45 #[.pointer (some ⟨fs, 0, none⟩), .string ⟨n.toArray⟩, .int .i64 now, .int .i64 from_, .int .i64 until_] W (Fetched W n (fetch S.now n now from_ until_)) := by
 obtain ⟨h1, V, h2, h3⟩ := h
 exact fetch_in7 h2 n hnl now from_ until_ h0 hn1 hn2 ht
namespace Kt
def s0 : Vf.Sv := ⟨65536, [], [], []⟩
def hd : Hd := ⟨2, 0, [(1, 60), (60, 5)]⟩
def s1 : Vf.Sv := (create s0 [97] hd).1
def s2 : Vf.Sv := (update s1 [97] 100 [(99, 5)]).1
theorem c1 : (create s0 [97] hd).2 = 0 := by decide +kernel
theorem c2 : (update s1 [97] 100 [(99, 5)]).2 = (1, 0) := by decide +kernel
theorem c3 : (info s2.now [97]).2 = 0 := by decide +kernel
theorem c4 : ¬ ((99 : Int) < 98 ∨ (100 : Int) < 98 ∨ (99 : Int) < 0 ∨ (99 : Int) < 100 - (info s2.now [97]).1.span) := by decide +kernel
theorem c5 : fetch s2.now [97] 100 98 99 = (some ⟨99, 1, [⟨true, 5⟩]⟩, 0) := by kernel_rfl
end Kt
theorem known7_any (w : World) (hg : Gv w) : Calls Tryz.prog 19 #[] w fun e w' => e = .returned (.bool true) ∧ Below w.heap.size w w' := by
 have HN := Lib.hid (Ws.new_any w)
 obtain ⟨fs, hfs⟩ : ∃ fs, fs = w.heap.size := ⟨_, rfl⟩
 rw [← hfs] at HN
 clear hfs
 have HCR : Hid (∀ w1, Hid (Kw w fs 0 ⟨65536, [], [], []⟩ w1) → Calls Tryz.prog 10 #[.pointer (some ⟨fs, 0, none⟩), .string ⟨#[97]⟩, .agg #[.int .i64 2, .int .i64 0, .slice (some ⟨w1.heap.size, 0, none⟩) 2 2]]
  ((w1.alloc (.cells #[.int .i64 1, .int .i64 60, .int .i64 60, .int .i64 5] 56)).alloc (.cells #[.int .i64 2, .int .i64 0, .slice (some ⟨w1.heap.size, 0, none⟩) 2 2] 24)) fun e w' => e = .returned (.int .i64 0) ∧ Hid (Kw w fs 1 Kt.s1 w')) := Lib.hid fun w1 h => by
  have hb : Below w1.heap.size w1 ((w1.alloc (.cells #[.int .i64 1, .int .i64 60, .int .i64 60, .int .i64 5] 56)).alloc (.cells #[.int .i64 2, .int .i64 0, .slice (some ⟨w1.heap.size, 0, none⟩) 2 2] 24)) := ((Below.refl _ _).alloc (Nat.le_refl _) _).alloc (by simp) _
  have hr : RowAt ((w1.alloc (.cells #[.int .i64 1, .int .i64 60, .int .i64 60, .int .i64 5] 56)).alloc (.cells #[.int .i64 2, .int .i64 0, .slice (some ⟨w1.heap.size, 0, none⟩) 2 2] 24)) w1.heap.size 56 #[.int .i64 1, .int .i64 60, .int .i64 60, .int .i64 5] := (RowAt.new w1 _ _).below ((Below.refl _ _).alloc (Nat.le_refl _) _) (by simp)
  have hrow : Row ((w1.alloc (.cells #[.int .i64 1, .int .i64 60, .int .i64 60, .int .i64 5] 56)).alloc (.cells #[.int .i64 2, .int .i64 0, .slice (some ⟨w1.heap.size, 0, none⟩) 2 2] 24)) (some ⟨w1.heap.size, 0, none⟩) Kt.hd.l 2 := by
   refine ⟨Nat.le_refl _, fun _ => ⟨_, _, rfl, ⟨hr.lt, ?_, ?_⟩⟩⟩
   ·intro i hi
    match i, hi with
    | 0, _ => exact hr.cell 0
    | 1, _ => exact hr.cell 2
   ·intro i hi
    match i, hi with
    | 0, _ => exact hr.cell 1
    | 1, _ => exact hr.cell 3
  have := h.out.create hb (by decide) [97] Kt.hd (some ⟨w1.heap.size, 0, none⟩) 2 hrow
  rw [show (⟨65536, [], [], []⟩ : Vf.Sv) = Kt.s0 from rfl, Kt.c1] at this
  exact this
 have HUP : Hid (∀ w1, Hid (Kw w fs 1 Kt.s1 w1) → Calls Tryz.prog 11 #[.pointer (some ⟨fs, 0, none⟩), .string ⟨#[97]⟩, .int .i64 100, .slice (some ⟨w1.heap.size, 0, none⟩) 1 1]
  (w1.alloc (.cells #[.int .i64 99, .int .i64 5] 27)) fun e w' => e = .returned (.tuple #[.int .i64 1, .int .i64 0]) ∧ Hid (Kw w fs 28 Kt.s2 w')) := Lib.hid fun w1 h => by
  have hb : Below w1.heap.size w1 (w1.alloc (.cells #[.int .i64 99, .int .i64 5] 27)) := (Below.refl _ _).alloc (Nat.le_refl _) _
  have hr : RowAt (w1.alloc (.cells #[.int .i64 99, .int .i64 5] 27)) w1.heap.size 27 #[.int .i64 99, .int .i64 5] := RowAt.new w1 _ _
  have hrow : Row (w1.alloc (.cells #[.int .i64 99, .int .i64 5] 27)) (some ⟨w1.heap.size, 0, none⟩) [(99, 5)] 1 := by
   refine ⟨Nat.le_refl _, fun _ => ⟨_, _, rfl, ⟨hr.lt, ?_, ?_⟩⟩⟩
   ·intro i hi
    match i, hi with
    | 0, _ => exact hr.cell 0
   ·intro i hi
    match i, hi with
    | 0, _ => exact hr.cell 1
  have := h.out.update hg hb [97] 100 [(99, 5)] (some ⟨w1.heap.size, 0, none⟩) 1 hrow (fun a e => by injection e with e; subst e; exact .inr ⟨Nat.le_refl _, by simp⟩) (by decide)
  rw [Kt.c2] at this
  exact this
 have HFE : Hid (∀ w1, Hid (Kw w fs 28 Kt.s2 w1) → Calls Tryz.prog 45 #[.pointer (some ⟨fs, 0, none⟩), .string ⟨#[97]⟩, .int .i64 100, .int .i64 98, .int .i64 99] w1 fun e w' => ∃ b off cap, e = .returned (.tuple #[.agg #[.string ⟨#[97]⟩, .int .i64 99, .int .i64 1, .slice (some ⟨b, off, none⟩) 1 cap, .int .i64 0], .int .i64 0]) ∧ Hid (∀ W, Below w'.heap.size w' W → W.cell? ⟨b, off, none⟩ = some (.bool true) ∧ W.cell? ⟨b, off + 1, none⟩ = some (.int .i64 5)) ∧ Hid (Below w.heap.size w w')) := Lib.hid fun w1 h => by
  have := h.out.fetch_in [97] (by decide) 100 98 99 Kt.c3 (by decide) (by decide) Kt.c4
  rw [Kt.c5] at this
  refine this.mono ?_
  rintro e w' ⟨v, rfl, -, h2, h3⟩
  obtain ⟨x, rfl, ho⟩ := h2 _ rfl
  obtain ⟨b, off, cap, rfl, hv⟩ := OwnV.vals ho (by decide)
  refine ⟨b, off, cap, rfl, Lib.hid fun W hb => ?_, Lib.hid (h.out.1.trans (h3.mono h.out.1.size))⟩
  have hv2 := hv.below hb
  exact ⟨by simpa using hv2.ok 0 (by decide), by simpa using hv2.n 0 (by decide)⟩
 go_enter Tryz.func19, Tryz.ntmps19
 go_wp2_with (first
  | (go_at_call 9; (with_reducible refine (HN.out).mono ?_); rintro e w1 ⟨rfl, h1⟩)
  | (go_at_call 10; (with_reducible refine (HCR.out w1 h1).mono ?_); rintro e w2 ⟨rfl, h2⟩)
  | (go_at_call 11; (with_reducible refine (HUP.out w2 h2).mono ?_); rintro e w3 ⟨rfl, h3⟩)
  | (go_at_call 45; (with_reducible refine (HFE.out w3 h3).mono ?_); rintro e w4 ⟨b, off, cap, rfl, h4, hb4⟩; obtain ⟨y0, y1⟩ := h4.out (w4.alloc (.cells #[.string ⟨#[97]⟩, .int .i64 99, .int .i64 1, .slice (some ⟨b, off, none⟩) 1 cap, .int .i64 0] 106)) ((Below.refl _ _).alloc (Nat.le_refl _) _); have HB4 := Lib.hid hb4; have hs4 := hb4.size; clear hb4))
 go_ret
 exact ⟨rfl, HB4.out.alloc hs4 _⟩
end
section
open Go.RowKit Go.Sort
open Fx (Vl)
open Me
open Wp
theorem small_any (ag xf : Int) (l : List (Int × Int)) (A : Option Addr) (cap : Nat) (w : World) (h : Row w A l cap) :
 Calls Tryz.prog 4 #[.agg #[.int .i64 ag, .int .i64 xf, .slice A l.length cap]] w fun e w' => e = .returned (.bool (Wh.val ag xf l && decide (Wh.size ag xf l ≤ 3000))) ∧ Below w.heap.size w w' := by
 have HM : Hid (∀ W, Below w.heap.size w W → Calls Tryz.prog 20 #[.agg #[.int .i64 ag, .int .i64 xf, .slice A l.length cap]] W fun e w' => e = .returned (.bool (Wh.val ag xf l)) ∧ Below W.heap.size W w') := Lib.hid fun W hb => may_any ag xf l A cap W (h.below hb)
 have HS : Hid (∀ W, Below w.heap.size w W → Calls Tryz.prog 21 #[.agg #[.int .i64 ag, .int .i64 xf, .slice A l.length cap]] W fun e w' => e = .returned (.int .i64 (Wh.size ag xf l)) ∧ Below W.heap.size W w') := Lib.hid fun W hb => rsize_any ag xf l A cap W (h.below hb)
 have hX : Below w.heap.size w (w.alloc (.cells #[.int .i64 ag, .int .i64 xf, .slice A l.length cap] 24)) := (Below.refl _ _).alloc (Nat.le_refl _) _
 have hrx : RowAt (w.alloc (.cells #[.int .i64 ag, .int .i64 xf, .slice A l.length cap] 24)) w.heap.size 24 #[.int .i64 ag, .int .i64 xf, .slice A l.length cap] := RowAt.new w _ _
 have HRX := Lib.hid hrx
 generalize Wh.size ag xf l = sz at *
 generalize Wh.val ag xf l = b at *
 clear h hrx
 generalize l.length = n at *
 cases b
 ·clear HS
  go_enter Tryz.func4, Tryz.ntmps4
  go_wp2_with (go_at_call 20; (with_reducible refine (HM.out _ hX).mono ?_); rintro e w1 ⟨rfl, hb1⟩; have HB1 := Lib.hid (hX.trans (hb1.mono hX.size)); clear hb1)
  go_ret
  exact ⟨by simp, HB1.out⟩
 ·go_enter Tryz.func4, Tryz.ntmps4
  go_wp2_with first
   | (go_at_call 20; (with_reducible refine (HM.out _ hX).mono ?_); rintro e w1 ⟨rfl, hb1⟩; have HB1 := Lib.hid (hX.trans (hb1.mono hX.size)); obtain ⟨y0, y1, y2⟩ : w1.cell? ⟨w.heap.size, 0, none⟩ = some (.int .i64 ag) ∧ w1.cell? ⟨w.heap.size, 1, none⟩ = some (.int .i64 xf) ∧ w1.cell? ⟨w.heap.size, 2, none⟩ = some (.slice A n cap) := (by have h1 := HRX.out.below hb1 HRX.out.lt; exact ⟨h1.cell 0, h1.cell 1, h1.cell 2⟩); clear hb1)
   | (go_at_call 21; (with_reducible refine (HS.out _ HB1.out).mono ?_); rintro e w2 ⟨rfl, hb2⟩; have HB2 := Lib.hid (HB1.out.trans (hb2.mono HB1.out.size)); clear hb2)
  go_ret
  exact ⟨by simp, HB2.out⟩
theorem create_new7 {h : Hd} (hv : h.val = true) (hs : h.size ≤ 3000) : (create Kt.s0 [97] h).2 = 0 ∧ ∃ B, Stands (create Kt.s0 [97] h).1.now [97] h B := by
 have key : ∀ b : List UInt8, (b.length : Int) ≤ 65536 → Vf.create Kt.s0 [97] b = (Kt.s0.act ⟨1, [97], 0, b⟩, 0) := fun b hb => by
  unfold Vf.create
  simp [Kt.s0, Vf.ix, Vf.ixFrom, Vf.used, Vf.is, hb]
 have hh : ∀ b : List UInt8, (Vf.create Kt.s0 [97] b).2 = 0 → Vf.Has (Vf.create Kt.s0 [97] b).1.now [97] b := fun b h0 => by
  by_cases hb : (b.length : Int) ≤ 65536
  ·rw [key b hb]
   exact ⟨by decide, 0, [97], by rfl, by rfl⟩
  ·exfalso
   revert h0
   unfold Vf.create
   simp [Kt.s0, Vf.ix, Vf.ixFrom, Vf.used, Vf.is]
   rw [if_pos (by omega)]
   simp
 have h1 := enc_len7 hv
 have h2 : ((Wh.enc h.ag h.xf h.l).length : Int) ≤ h.size := by
  have hr := ring_in hv (i := 0) (by have := Hd.len hv; omega)
  obtain ⟨⟨n1, n2⟩, n3, n4⟩ := Hd.nums hv 0 (by have := Hd.len hv; omega)
  omega
 have h0 : (create Kt.s0 [97] h).2 = 0 := by
  unfold Wp.create
  rw [if_neg (by rw [hv]; simp)]
  dsimp only
  rw [key _ (by rw [List.length_append, List.length_replicate]; omega)]
  rfl
 exact ⟨h0, create_stands hv h0 hh⟩
end
section
open Go.RowKit Go.Sort
open Fx (Vl)
open Me
open Wp
end
section
open Go.RowKit Go.Sort
open Fx (Vl)
open Me
open Wp
open Ws
end
section
open Go.RowKit Go.Sort
open Fx (Vl)
open Me
open Wp
theorem Wp.PO.kpadd {w w' : World} {V V' O : Nat → Prop} {fs c : Nat} {S : Vf.Sv} (h : PO w V fs c S) (k : Kp O w w') (hO : ∀ i, O i → V i) (hV : ∀ i, V' i → V i ∨ (w.heap.size ≤ i ∧ i < w'.heap.size)) : PO w' V' fs c S := by
 obtain ⟨M, h1, h2, h3⟩ := h
 refine ⟨_, (PO.tight h1).kp k (fun i ho hi => (h3 i (hO i ho)).2 hi.1), h2, fun i hi => ?_⟩
 rcases hV i hi with hv | ⟨ha, hb⟩
 ·exact ⟨Nat.lt_of_lt_of_le (h3 i hv).1 k.size, fun hm => (h3 i hv).2 hm.1⟩
 ·exact ⟨hb, fun hm => by have := hm.2; omega⟩
open Ws
end
section
open Go.RowKit Go.Sort
open Fx (Vl)
open Me
open Wp
namespace Wp
theorem Fits.ring_eq {l : List Vf.Fl} {n : List UInt8} {h : Hd} {B : List UInt8} (f : Fits l n h B) {i : Nat} (hi : i < h.l.length) {C : Nat} (hC : h.cnt i = (C : Int)) : pts l n h i C = side B (h.offs (i : Int)).toNat C := by
 have hr := f.ring hi
 unfold pts side
 apply List.map_congr_left
 intro k hk
 have hk' := List.mem_range.1 hk
 rw [f.has.read_eq (by omega) (by omega) (by omega)]
 rw [show (h.offs (i : Int) + 12 * (k : Int)).toNat = (h.offs (i : Int)).toNat + 12 * k by omega]
 rfl
end Wp
theorem ring_any7 {w : World} {V : Nat → Prop} {c fs : Nat} {S : Vf.Sv} (ro : PO w V fs c S) (n : List UInt8) (a : Int) :
 Calls Tryz.prog 17 #[.pointer (some ⟨fs, 0, none⟩), .string ⟨n.toArray⟩, .int .i64 a] w (Ringed w (ring S.now n a)) := by
 have HIN := Lib.hid (open_any ro n)
 have HRO := Lib.hid ro
 have HE1 := Lib.hid (ring_err (fs := S.now) (n := n) (i := a))
 have HE2 := Lib.hid (ring_no (fs := S.now) (n := n) (i := a))
 have HE3 := Lib.hid (fun i => ring_yes (fs := S.now) (n := n) (i := i))
 have HVL := Lib.hid (info_file (l := S.now) (n := n))
 clear ro
 generalize info S.now n = R at *
 obtain ⟨⟨ag, xf, hl⟩, er⟩ := R
 by_cases he : er = 0
 ·subst he
  obtain ⟨B0, hB0⟩ := HVL.out rfl
  have hv := hB0.val
  have hlen := Hd.len hv
  by_cases ht1 : a < 0
  ·have HQ := Lib.hid (HE2.out rfl (.inl ht1))
   clear HE1 HE2 HE3 HVL
   go_enter Tryz.func17, Tryz.ntmps17
   go_wp2_with (go_at_call 32; (with_reducible refine (HIN.out).mono ?_); rintro e w1 ⟨A1, c1, p1, s1, rfl, hps, hrow, hfr, hb1⟩; have HB1 := Lib.hid hb1; clear hb1 hrow hfr hps)
   ((try simp only [Exit.inBlock, Exit.then]); refine bodyPost_ret (results_tmp2 rfl _ _ _) rfl ?_)
   exact ⟨.slice none 0 0, by rw [HQ.out]; rfl, by rw [HQ.out]; exact OwnP.nil _ _, HB1.out.alloc HB1.out.size _⟩
  by_cases ht2 : (hl.length : Int) ≤ a
  ·have HQ := Lib.hid (HE2.out rfl (.inr ht2))
   clear HE1 HE2 HE3 HVL
   go_enter Tryz.func17, Tryz.ntmps17
   go_wp2_with (go_at_call 32; (with_reducible refine (HIN.out).mono ?_); rintro e w1 ⟨A1, c1, p1, s1, rfl, hps, hrow, hfr, hb1⟩; have HB1 := Lib.hid hb1; clear hb1 hrow hfr hps)
   ((try simp only [Exit.inBlock, Exit.then]); refine bodyPost_ret (results_tmp2 rfl _ _ _) rfl ?_)
   exact ⟨.slice none 0 0, by rw [HQ.out]; rfl, by rw [HQ.out]; exact OwnP.nil _ _, HB1.out.alloc HB1.out.size _⟩
  obtain ⟨i, rfl⟩ : ∃ i : Nat, a = (i : Int) := ⟨a.toNat, by omega⟩
  have hi : i < hl.length := by omega
  have HQ := Lib.hid (HE3.out i rfl hi)
  clear HE1 HE2 HE3 HVL
  obtain ⟨H, hH⟩ : ∃ H, Hid (H = (⟨ag, xf, hl⟩ : Hd)) := ⟨_, Lib.hid rfl⟩
  rw [← hH.out] at HQ hB0 hv
  have hi2 : i < H.l.length := by rw [hH.out]; exact hi
  have hvH : H.val = true := hv
  have hFH : Fits S.now n H B0 := hB0
  clear hv hB0
  obtain ⟨⟨n1, n2⟩, n3, n4⟩ := Hd.nums hvH i hi2
  obtain ⟨C, hC⟩ : ∃ C : Nat, H.cnt i = (C : Int) := ⟨(H.cnt i).toNat, by omega⟩
  have HQ2 : Hid (ring S.now n (i : Int) = (round B0 (H.offs (i : Int)).toNat C 0 C, 0)) := Lib.hid (by rw [HQ.out, hC, Int.toNat_natCast, hFH.ring_eq hi2 hC, round_all])
  have HFV : Hid (∀ A c, fileV H A c fs n = .agg #[.int .i64 ag, .int .i64 xf, .slice A hl.length c, .pointer (some ⟨fs, 0, none⟩), .string ⟨n.toArray⟩]) := Lib.hid fun A c => by rw [hH.out]; rfl
  obtain ⟨o, ho⟩ : ∃ o, o = H.offs (i : Int) := ⟨_, rfl⟩
  obtain ⟨s, hs⟩ : ∃ s, s = H.step i := ⟨_, rfl⟩
  have HRV : Hid (∀ A c, ringV H i A c fs n = .agg #[.int .i64 s, .int .i64 (C : Int), .int .i64 ag, .int .i64 xf, .slice A hl.length c, .pointer (some ⟨fs, 0, none⟩), .string ⟨n.toArray⟩, .int .i64 o]) := Lib.hid fun A c => by rw [ho, hs, ← hC, hH.out]; rfl
  have HRG : Hid (∀ W A c, Row W A hl c → Calls Tryz.prog 42 #[.agg #[.int .i64 ag, .int .i64 xf, .slice A hl.length c, .pointer (some ⟨fs, 0, none⟩), .string ⟨n.toArray⟩], .int .i64 (i : Int)] W fun e w' => e = .returned (.agg #[.int .i64 s, .int .i64 (C : Int), .int .i64 ag, .int .i64 xf, .slice A hl.length c, .pointer (some ⟨fs, 0, none⟩), .string ⟨n.toArray⟩, .int .i64 o]) ∧ Below W.heap.size W w') := Lib.hid fun W A c hr => by
   have h := ring_any (fs := fs) (n := n) (h := H) (A := A) (cap := c) (by rw [hH.out]; exact hr) hvH i hi2
   rw [HFV.out, HRV.out] at h
   exact h
  have HPT : Hid (∀ W A c, Below w.heap.size w W → Calls Tryz.prog 43 #[.agg #[.int .i64 s, .int .i64 (C : Int), .int .i64 ag, .int .i64 xf, .slice A hl.length c, .pointer (some ⟨fs, 0, none⟩), .string ⟨n.toArray⟩, .int .i64 o], .int .i64 0, .int .i64 (C : Int)] W fun e w' => ∃ v, e = .returned v ∧ OwnP 27 W.heap.size w' v (round B0 (H.offs (i : Int)).toNat C 0 C) ∧ Below W.heap.size W w') := Lib.hid fun W A c hb => by
   have h := points_any (A := A) (cap := c) (HRO.out.below hb) hFH i hi2 0 C C hC (by omega) (Nat.le_refl _)
   rw [HRV.out] at h
   exact h
  have hil : (i : Int) < (hl.length : Int) := by omega
  have hi0 : (0 : Int) ≤ (i : Int) := by omega
  clear ho hs hC hFH hvH n1 n2 n3 n4 HQ
  go_enter Tryz.func17, Tryz.ntmps17
  go_wp2_with first
   | (go_at_call 32; (with_reducible refine (HIN.out).mono ?_); rintro e w1 ⟨A1, c1, p1, s1, rfl, hps, hrow, hfr, hb1⟩; obtain ⟨rfl, rfl⟩ := hps rfl; have HB1 := Lib.hid hb1; have HROW := Lib.hid hrow; have hs1 := hb1.size; clear hb1 hrow hfr)
   | (go_at_call 42; (with_reducible refine (HRG.out _ A1 c1 (HROW.out.below ((Below.refl _ _).alloc (Nat.le_refl _) _))).mono ?_); rintro e w3 ⟨rfl, hb3⟩; have HB3 : Hid (Below w.heap.size w w3) := Lib.hid ((HB1.out.alloc hs1 _).trans (hb3.mono (by simp; omega))); have hs3 := HB3.out.size; clear hb3)
   | (go_at_call 43; (with_reducible refine (HPT.out _ A1 c1 (HB3.out.alloc hs3 _)).mono ?_); rintro e w4 ⟨v4, rfl, ho4, hb4⟩; have hb4' : Below w.heap.size w w4 := (HB3.out.alloc hs3 _).trans (hb4.mono (by simp; omega)); have HB4 := Lib.hid hb4'; have HO4 : Hid (OwnP 27 w.heap.size w4 v4 (round B0 (H.offs (i : Int)).toNat C 0 C)) := Lib.hid (own_weak ho4 (by simp; omega)); clear hb4 hb4' ho4)
  ((try simp only [Exit.inBlock, Exit.then]); refine bodyPost_ret (results_tmp2 rfl _ _ _) rfl ?_)
  exact ⟨v4, by rw [HQ2.out]; rfl, by rw [HQ2.out]; exact HO4.out, HB4.out⟩
 ·have HQ := Lib.hid (HE1.out he)
  have heb : (er == 0) = false := by simpa using he
  clear HE1 HE2 HE3 HVL
  go_enter Tryz.func17, Tryz.ntmps17
  go_wp2_with (go_at_call 32; (with_reducible refine (HIN.out).mono ?_); rintro e w1 ⟨A1, c1, p1, s1, rfl, hps, hrow, hfr, hb1⟩; have HB1 := Lib.hid hb1; clear hb1 hrow hfr hps)
  ((try simp only [Exit.inBlock, Exit.then]); refine bodyPost_ret (results_tmp2 rfl _ _ _) rfl ?_)
  exact ⟨.slice none 0 0, by rw [HQ.out]; rfl, by rw [HQ.out]; exact OwnP.nil _ _, HB1.out.alloc HB1.out.size _⟩
end
section
open Go.RowKit Go.Sort
open Fx (Vl)
open Me
open Wp
end
section
open Go.RowKit Go.Sort
open Fx (Vl)
open Me
open Wp
end
section
open Go.RowKit Go.Sort
open Fx (Vl)
open Me
open Wp
end
section
open Go.RowKit Go.Sort
open Fx (Vl)
open Me
open Wp
end
section
open Go.RowKit Go.Sort
open Fx (Vl)
open Me
open Wp
end
section
open Go.RowKit Go.Sort
open Fx (Vl)
open Me
open Wp
theorem ownp_row {t : TypeId} {base : Nat} {w : World} {v : Value} {l : List (Int × Int)} (h : OwnP t base w v l) : ∃ A c, v = .slice A l.length c ∧ Row w A l c := by
 rcases h.2 with ⟨rfl, h0⟩ | ⟨g, cap, cur, rfl, hb, hg, hnc, hcm, hcs, ht⟩
 ·exact ⟨none, 0, by rw [h0], by omega, fun hl => by omega⟩
 ·refine ⟨some ⟨g, 0, none⟩, cap, rfl, hnc, fun hl => ⟨g, 0, rfl, (Array.getElem?_eq_some_iff.1 hg).1, fun i hi => ?_, fun i hi => ?_⟩⟩
  ·rw [Nat.zero_add, cell_of_row w g _ cur t (0, 0) hg, ← (Wh.cellsA_at l i hi).1, show Wh.cellsA l = _ from ht.symm, List.getElem?_take, if_pos (by omega)]
   simp
  ·rw [Nat.zero_add, cell_of_row w g _ cur t (0, 0) hg, ← (Wh.cellsA_at l i hi).2, show Wh.cellsA l = _ from ht.symm, List.getElem?_take, if_pos (by omega)]
   simp
theorem headers_any7 (ag xf : Int) (l : List (Int × Int)) (A A' : Option Addr) (c c' : Nat) (hl : l.length ≤ 16777216) (w : World) (hx : Row w A l c) (hx' : Row w A' l c') :
 Calls Tryz.prog 16 #[.agg #[.int .i64 ag, .int .i64 xf, .slice A l.length c], .agg #[.int .i64 ag, .int .i64 xf, .slice A' l.length c']] w fun e w' => e = .returned (.bool true) ∧ Below w.heap.size w w' := by
 obtain ⟨X, hX⟩ : ∃ X, X = ((w.alloc (.cells #[.int .i64 ag, .int .i64 xf, .slice A l.length c] 24)).alloc (.cells #[.int .i64 ag, .int .i64 xf, .slice A' l.length c'] 24)) := ⟨_, rfl⟩
 have HX : Hid (Below w.heap.size w X) := Lib.hid (by rw [hX]; exact ((Below.refl _ _).alloc (Nat.le_refl _) _).alloc (by simp) _)
 have HC : Hid (∀ W, Below X.heap.size X W → W.cell? ⟨w.heap.size, 2, none⟩ = some (.slice A l.length c) ∧ W.cell? ⟨w.heap.size + 1, 2, none⟩ = some (.slice A' l.length c')) := Lib.hid fun W hb => by
  have h1 : RowAt X w.heap.size 24 #[.int .i64 ag, .int .i64 xf, .slice A l.length c] := by rw [hX]; exact (RowAt.new w _ _).below ((Below.refl _ _).alloc (Nat.le_refl _) _) (by simp)
  have h2 : RowAt X (w.heap.size + 1) 24 #[.int .i64 ag, .int .i64 xf, .slice A' l.length c'] := by rw [hX]; exact two_row w _ _
  exact ⟨(h1.below hb h1.lt).cell 2, (h2.below hb h2.lt).cell 2⟩
 have HS := Lib.hid (hx.below HX.out)
 have HS' := Lib.hid (hx'.below HX.out)
 have hnl : (l.length : Int) ≤ 16777216 := by omega
 clear hx hx'
 go_enter Tryz.func16, Tryz.ntmps16
 go_wp2_with fail
 rw [← hX]
 clear hX
 go_loopw [5] (fun u wr => ∃ k : Nat, k ≤ l.length ∧ u = .int .i64 k ∧ Hid (Below X.heap.size X wr)) (fun u _ => l.length - (intOf u).toNat)
 case atStart => exact ⟨0, Nat.zero_le _, rfl, Lib.hid (Below.refl _ _)⟩
 case round =>
  obtain ⟨k, hk, rfl, HB⟩ := hrel
  obtain ⟨y3, y3'⟩ := HC.out _ HB.out
  by_cases hlt : k < l.length
  ·obtain ⟨b, off, rfl, hv⟩ := HS.out.2 (by omega)
   obtain ⟨b', off', rfl, hv'⟩ := HS'.out.2 (by omega)
   have g0 := (hv.below HB.out).st k hlt
   have g1 := (hv.below HB.out).ct k hlt
   have g0' := (hv'.below HB.out).st k hlt
   have g1' := (hv'.below HB.out).ct k hlt
   have hkl : (k : Int) < (l.length : Int) := by omega
   have hk0 : (0 : Int) ≤ (k : Int) := by omega
   clear hv hv'
   generalize (Wh.At l k).1 = ea at *
   generalize (Wh.At l k).2 = eb at *
   have HB' : Hid (Below X.heap.size X wr.drew) := Lib.hid HB.out.drew
   go_wp2_with fail
   go_region
   all_goals
    go_wp2_with fail
    go_roundw
    case rel => exact ⟨k + 1, by omega, by go_num, HB'⟩
    case measure => simp [intOf]; omega
  ·obtain rfl : k = l.length := by omega
   go_wp2_with fail
   go_ret
   exact ⟨rfl, HX.out.trans (HB.out.mono HX.out.size)⟩
theorem Wp.RO.kpadd {w w' : World} {V V' O : Nat → Prop} {fs c : Nat} {S : Vf.Sv} (h : RO w V fs c S) (k : Kp O w w') (hO : ∀ i, O i → V i) (hV : ∀ i, V' i → V i ∨ (w.heap.size ≤ i ∧ i < w'.heap.size)) : RO w' V' fs c S := by
 obtain ⟨G, lr, nv, wv, lv, ys, h1, h2, h3⟩ := h
 have hlr : ∀ g, lr = some g → g < w.heap.size := fun g hg => (h1.own.lt g (h1.row.trans hg)).2
 have hfs := h1.fsLt
 refine ⟨G, lr, nv, wv, lv, ys, h1.kp k (fun i hi => (h3 i (hO i hi)).2), h2, fun i hi => ?_⟩
 rcases hV i hi with hv | ⟨ha, hb⟩
 ·exact ⟨Nat.lt_of_lt_of_le (h3 i hv).1 k.size, (h3 i hv).2⟩
 ·exact ⟨hb, fun hg => by have := h1.lt i hg; omega, fun e => by omega, fun e => by have := hlr i e; omega⟩
def Ws.Dx (w0 : World) (fs xs c1 c2 : Nat) (S1 S2 : Vf.Sv) (Q : Nat → Prop) (W : World) : Prop :=
 Below w0.heap.size w0 W ∧ ∃ V1 V2, PO W V1 fs c1 S1 ∧ RO W V2 xs c2 S2 ∧ (∀ b, b < W.heap.size → V1 b ∨ V2 b) ∧ ∀ b, b < w0.heap.size ∨ Q b → V1 b ∧ V2 b
open Ws
section
variable {w0 W W' : World} {fs xs c1 c2 : Nat} {S1 S2 : Vf.Sv} {Q Q' : Nat → Prop}
theorem Ws.Dx.base (h : Dx w0 fs xs c1 c2 S1 S2 Q W) : Below w0.heap.size w0 W := by
 obtain ⟨h1, _⟩ := h
 exact h1
theorem Ws.Dx.laid (h : Dx w0 fs xs c1 c2 S1 S2 Q W) (hb : Below W.heap.size W W') (hQ : ∀ i, Q' i → Q i ∨ (W.heap.size ≤ i ∧ i < W'.heap.size)) : Dx w0 fs xs c1 c2 S1 S2 Q' W' := by
 obtain ⟨h1, V1, V2, h2, h3, h4, h5⟩ := h
 refine ⟨h1.trans (hb.mono h1.size), fun i => V1 i ∨ (W.heap.size ≤ i ∧ i < W'.heap.size), fun i => V2 i ∨ (W.heap.size ≤ i ∧ i < W'.heap.size), h2.add hb (fun i hi => hi), h3.add hb (fun i hi => hi), fun b hb' => ?_, fun b hb' => ?_⟩
 ·by_cases hlt : b < W.heap.size
  ·exact (h4 b hlt).imp .inl .inl
  ·exact .inl (.inr ⟨by omega, hb'⟩)
 ·rcases hb' with hb' | hb'
  ·exact ⟨.inl (h5 b (.inl hb')).1, .inl (h5 b (.inl hb')).2⟩
  ·rcases hQ b hb' with hq | hq
   ·exact ⟨.inl (h5 b (.inr hq)).1, .inl (h5 b (.inr hq)).2⟩
   ·exact ⟨.inr hq, .inr hq⟩
theorem Ws.Dx.below (h : Dx w0 fs xs c1 c2 S1 S2 Q W) (hb : Below W.heap.size W W') : Dx w0 fs xs c1 c2 S1 S2 Q W' := h.laid hb (fun _ => .inl)
theorem Ws.Dx.less (h : Dx w0 fs xs c1 c2 S1 S2 Q W) (hQ : ∀ i, Q' i → Q i) : Dx w0 fs xs c1 c2 S1 S2 Q' W := h.laid (Below.refl _ _) (fun i hi => .inl (hQ i hi))
theorem Ws.Dx.prog {f : Nat} {args : Array Value} {P : Ending → Prop} {c1' : Nat} {S1' : Vf.Sv} (h : Dx w0 fs xs c1 c2 S1 S2 Q W)
 (hC : ∀ V, PO W V fs c1 S1 → (∀ b, b < w0.heap.size ∨ Q b → V b) → Calls Tryz.prog f args W fun e w' => P e ∧ PO w' V fs c1' S1' ∧ Kp (fun b => ¬ V b) W w') :
 Calls Tryz.prog f args W fun e w' => P e ∧ Hid (Dx w0 fs xs c1' c2 S1' S2 Q w') ∧ Hid (Kp (fun b => ¬ (b < w0.heap.size ∨ Q b)) W w') := by
 obtain ⟨h1, V1, V2, h2, h3, h4, h5⟩ := h
 refine (hC V1 h2 (fun b hb => (h5 b hb).1)).mono ?_
 rintro e w' ⟨hp, p, k⟩
 have k2 : Kp (fun b => b < W.heap.size ∧ ¬ V1 b) W w' := k.mono fun i hi ho => ⟨hi, ho⟩
 refine ⟨hp, Lib.hid ⟨h1.trans (k.below h1.size (fun i hi ho => ho (h5 i (.inl hi)).1)), V1, fun i => V2 i ∨ (W.heap.size ≤ i ∧ i < w'.heap.size), p, h3.kpadd k2 (fun i hi => (h4 i hi.1).resolve_left hi.2) (fun i hi => hi), fun b hb => ?_, fun b hb => ⟨(h5 b hb).1, .inl (h5 b hb).2⟩⟩, Lib.hid (k.mono fun i _ ho hq => ho (h5 i hq).1)⟩
 by_cases hlt : b < W.heap.size
 ·exact (h4 b hlt).imp id .inl
 ·exact .inr (.inr ⟨by omega, hb⟩)
theorem Ws.Dx.doc {f : Nat} {args : Array Value} {P : Ending → Prop} {c2' : Nat} {S2' : Vf.Sv} (h : Dx w0 fs xs c1 c2 S1 S2 Q W)
 (hC : ∀ V, RO W V xs c2 S2 → (∀ b, b < w0.heap.size ∨ Q b → V b) → Calls Tryz.prog f args W fun e w' => P e ∧ RO w' V xs c2' S2' ∧ Kp (fun b => ¬ V b) W w') :
 Calls Tryz.prog f args W fun e w' => P e ∧ Hid (Dx w0 fs xs c1 c2' S1 S2' Q w') ∧ Hid (Kp (fun b => ¬ (b < w0.heap.size ∨ Q b)) W w') := by
 obtain ⟨h1, V1, V2, h2, h3, h4, h5⟩ := h
 refine (hC V2 h3 (fun b hb => (h5 b hb).2)).mono ?_
 rintro e w' ⟨hp, p, k⟩
 have k2 : Kp (fun b => b < W.heap.size ∧ ¬ V2 b) W w' := k.mono fun i hi ho => ⟨hi, ho⟩
 refine ⟨hp, Lib.hid ⟨h1.trans (k.below h1.size (fun i hi ho => ho (h5 i (.inl hi)).2)), fun i => V1 i ∨ (W.heap.size ≤ i ∧ i < w'.heap.size), V2, h2.kpadd k2 (fun i hi => (h4 i hi.1).resolve_right hi.2) (fun i hi => hi), p, fun b hb => ?_, fun b hb => ⟨.inl (h5 b hb).1, (h5 b hb).2⟩⟩, Lib.hid (k.mono fun i _ ho hq => ho (h5 i hq).2)⟩
 by_cases hlt : b < W.heap.size
 ·exact (h4 b hlt).imp .inl id
 ·exact .inl (.inr ⟨by omega, hb⟩)
theorem Ws.Dx.po (h : Dx w0 fs xs c1 c2 S1 S2 Q W) : ∃ V, PO W V fs c1 S1 := by
 obtain ⟨_, V1, V2, h2, _⟩ := h
 exact ⟨V1, h2⟩
theorem Ws.Dx.ro (h : Dx w0 fs xs c1 c2 S1 S2 Q W) : ∃ V, RO W V xs c2 S2 := by
 obtain ⟨_, V1, V2, _, h3, _⟩ := h
 exact ⟨V2, h3⟩
end
end
section
open Go.RowKit Go.Sort
open Fx (Vl)
open Me
open Wp
open Ws
structure Ws.Acting (w0 : World) (Q2 : Nat → Prop) (X : World) (p q : Nat) (k now fr un ix : Int) (hd : Hd) (A : Option Addr) (cap : Nat) (l : List (Int × Int)) (Ap : Option Addr) (capp : Nat) : Prop where
 hdr : RowAt X p 24 #[.int .i64 hd.ag, .int .i64 hd.xf, .slice A hd.l.length cap]
 act : RowAt X q 27 #[.int .i64 k, .int .i64 now, .int .i64 fr, .int .i64 un, .int .i64 ix, .slice Ap l.length capp]
 qp : Q2 p
 qq : Q2 q
 row : Row X A hd.l cap
 pts : Row X Ap l capp
 hA : 0 < hd.l.length → ∀ a, A = some a → a.block < w0.heap.size ∨ Q2 a.block
 hAp : 0 < l.length → ∀ a, Ap = some a → a.block < w0.heap.size ∨ Q2 a.block
end
section
open Go.RowKit Go.Sort
open Fx (Vl)
open Me
open Wp
open Ws
end
section
open Go.RowKit Go.Sort
open Fx (Vl)
open Me
open Wp
open Ws
end
section
open Go.RowKit Go.Sort
open Fx (Vl)
open Me
open Wp
open Ws
end
section
open Go.RowKit Go.Sort
open Fx (Vl)
open Me
open Wp
open Ws
end
section
open Go.RowKit Go.Sort
open Fx (Vl)
open Me
open Wp
open Ws
theorem Ws.Dx.more {w0 W : World} {fs xs c1 c2 c1' c2' : Nat} {S1 S2 : Vf.Sv} {Q : Nat → Prop} (h : Dx w0 fs xs c1 c2 S1 S2 Q W) (h1 : c1 ≤ c1') (h2 : c2 ≤ c2') : Dx w0 fs xs c1' c2' S1 S2 Q W := by
 obtain ⟨a, V1, V2, p, r, b, d⟩ := h
 exact ⟨a, V1, V2, p.more h1 (fun _ h => h), r.more h2 (fun _ h => h), b, d⟩
end
section
open Go.RowKit Go.Sort
open Me
open Wp
def Wp.Asks (s c now t : Int) (k : Nat) (e : Ending) : Prop := ∃ r : Bool, e = .returned (.bool r) ∧ (r = true → Asked s c now t k)
theorem reached_any (s c now t : Int) (k : Nat) (hs : 1 ≤ s) (hs2 : s ≤ 16777216) (hc : 1 ≤ c) (hc2 : c ≤ 16777216) (ht : t ≤ 4294967295) (hn : now ≤ 4294967295) (hn0 : 0 ≤ now) (hk : (k : Int) ≤ 16777216) (w : World) :
 Calls Tryz.prog 18 #[.agg #[.int .i64 s, .int .i64 c], .int .i64 t, .int .i64 (k : Int), .int .i64 now] w fun e w' => Asks s c now t k e ∧ Below w.heap.size w w' := by
 obtain ⟨X, hX⟩ : ∃ X, X = w.alloc (.cells #[.int .i64 s, .int .i64 c] 56) := ⟨_, rfl⟩
 have hbX : Below w.heap.size w X := by rw [hX]; exact (Below.refl _ _).alloc (Nat.le_refl _) _
 obtain ⟨p, hpw⟩ : ∃ p, p = w.heap.size := ⟨_, rfl⟩
 have hrp : RowAt X p 56 #[.int .i64 s, .int .i64 c] := by rw [hX, hpw]; exact RowAt.new w _ _
 have HX := Lib.hid hbX
 have HRX := Lib.hid hrp
 have y0 := hrp.cell 0
 have y1 := hrp.cell 1
 change X.cell? ⟨p, 0, none⟩ = some (.int .i64 s) at y0
 change X.cell? ⟨p, 1, none⟩ = some (.int .i64 c) at y1
 have HPL : Hid (Calls Tryz.prog 44 #[.agg #[.int .i64 s, .int .i64 c], .int .i64 t] X fun e w' => e = .returned (.int .i64 (Sl.pl s c t)) ∧ Below X.heap.size X w') := Lib.hid (rplace_any s c t (by omega) X)
 have hs0 : s ≠ 0 := by omega
 have hsc : s * c ≤ 281474976710656 := by
  have h1 := Int.mul_le_mul hs2 hc2 (by omega) (by omega : (0 : Int) ≤ 16777216)
  omega
 have hsc0 : 0 ≤ s * c := Int.mul_nonneg (by omega) (by omega)
 have hw : IntKind.i64.wrap (s * c) = s * c := IntWalk.i64_in _ (by omega)
 clear hbX hrp
 by_cases h1 : 0 < t
 ·have hal := Sl.al_eq hs (by omega : 0 ≤ t)
  have htm : t.tmod s = t % s := Int.tmod_eq_emod_of_nonneg (by omega)
  have hsub : IntKind.i64.wrap (now - t) = now - t := IntWalk.i64_in _ (by omega)
  by_cases h2 : t.tmod s = 0
  ·by_cases h3 : Sl.pl s c t = (k : Int)
   ·by_cases h4 : t ≤ now
    ·by_cases h5 : now - t < s * c
     ·have HA : Hid (Asked s c now t k) := Lib.hid ⟨h1, by omega, h3, h4, h5⟩
      generalize Sl.pl s c t = pl at *
      subst h3
      clear hal htm
      go_enter Tryz.func18, Tryz.ntmps18
      go_wp2_with fail
      rw [← hX, ← hpw]
      clear hX hpw
      go_wp2_with (go_at_call 44; (with_reducible refine (HPL.out).mono ?_); (rintro e Y ⟨rfl, hb1⟩; have hr1 := HRX.out.below hb1 HRX.out.lt; have z0 := hr1.cell 0; have z1 := hr1.cell 1; have HBY := Lib.hid hb1; clear hb1 hr1))
      go_ret
      exact ⟨⟨true, rfl, fun _ => HA.out⟩, HX.out.trans (HBY.out.mono HX.out.size)⟩
     ·have h5b : decide (now - t < s * c) = false := decide_eq_false h5
      generalize Sl.pl s c t = pl at *
      subst h3
      clear hal htm
      go_enter Tryz.func18, Tryz.ntmps18
      go_wp2_with fail
      rw [← hX, ← hpw]
      clear hX hpw
      go_wp2_with (go_at_call 44; (with_reducible refine (HPL.out).mono ?_); (rintro e Y ⟨rfl, hb1⟩; have hr1 := HRX.out.below hb1 HRX.out.lt; have z0 := hr1.cell 0; have z1 := hr1.cell 1; have HBY := Lib.hid hb1; clear hb1 hr1))
      go_ret
      exact ⟨⟨false, rfl, fun h => by cases h⟩, HX.out.trans (HBY.out.mono HX.out.size)⟩
    ·generalize Sl.pl s c t = pl at *
     subst h3
     clear hal htm
     go_enter Tryz.func18, Tryz.ntmps18
     go_wp2_with fail
     rw [← hX, ← hpw]
     clear hX hpw
     go_wp2_with (go_at_call 44; (with_reducible refine (HPL.out).mono ?_); (rintro e Y ⟨rfl, hb1⟩; have hr1 := HRX.out.below hb1 HRX.out.lt; have z0 := hr1.cell 0; have z1 := hr1.cell 1; have HBY := Lib.hid hb1; clear hb1 hr1))
     go_ret
     exact ⟨⟨false, rfl, fun h => by cases h⟩, HX.out.trans (HBY.out.mono HX.out.size)⟩
   ·generalize Sl.pl s c t = pl at *
    clear hal htm
    go_enter Tryz.func18, Tryz.ntmps18
    go_wp2_with fail
    rw [← hX, ← hpw]
    clear hX hpw
    go_wp2_with (go_at_call 44; (with_reducible refine (HPL.out).mono ?_); (rintro e Y ⟨rfl, hb1⟩; have hr1 := HRX.out.below hb1 HRX.out.lt; have z0 := hr1.cell 0; have z1 := hr1.cell 1; have HBY := Lib.hid hb1; clear hb1 hr1))
    go_ret
    exact ⟨⟨false, rfl, fun h => by cases h⟩, HX.out.trans (HBY.out.mono HX.out.size)⟩
  ·have h2d : (t % s == 0) = false := by rw [← htm]; simpa using h2
   clear hal htm
   have h2b : (t.tmod s == 0) = false := by simpa using h2
   have h2c : decide (t.tmod s = 0) = false := decide_eq_false h2
   go_enter Tryz.func18, Tryz.ntmps18
   go_wp2_with fail
   go_ret
   refine ⟨⟨false, rfl, fun h => by cases h⟩, ?_⟩
   rw [← hX]
   exact HX.out
 ·go_enter Tryz.func18, Tryz.ntmps18
  go_wp2_with fail
  go_ret
  refine ⟨⟨false, rfl, fun h => by cases h⟩, ?_⟩
  rw [← hX]
  exact HX.out
end
end Go.Proofs.YtljlanhpjpjgaaaGreatDoor
