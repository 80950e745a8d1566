/-
  WpCr: CONTRACTS: chapter 7, the document's Create.
  WqCr: CONTRACTS: chapter 7, the program's Create.
  WsKn: CONTRACTS: chapter 7's law: the program's file system act by act; the example that is known.
  WhBack: PLAIN MATHEMATICS: what is read of an encoding, with anything behind it, is what it was made of.
  WrSlot: THE PLAIN STATE of chapter 7, seen by slots: what a write changes, what it leaves; a file that stands under its header. No program is named here.
  WsSm: CONTRACTS: chapter 7's law: a header that is looked at; a new file of it.
  WqFo: CONTRACTS: chapter 7, the program's Fetch: refused; and as a whole.
-/
import Derived.Test.YtbakngbmfgnmcaaDoorJ7
import Derived.Test.YtbakngbmfgnmcaaDoorJ11
import Derived.Test.YtbakngbmfgnmcaaDoorJ12
import Derived.Test.YtbakngbmfgnmcaaDoorJ16
import Derived.Test.YtbakngbmfgnmcaaDoorJ4
import Derived.Test.YtbakngbmfgnmcaaDoorJ3
import Derived.Test.YtbakngbmfgnmcaaDoorJ22
import Derived.Test.YtbakngbmfgnmcaaDoorJ13

namespace Go.Proofs.YtbakngbmfgnmcaaDoor
open Go.RowKit Go.Sort
open Fx (Vl)
open Me
open Wp

theorem zeros_made (n : Nat) : madeCells #[.int .u8 0] n = (by8 (List.replicate n 0)).toArray := by
  apply Array.ext
  · rw [size_madeCells]; simp [by8_len]
  · intro i h1 h2
    simp [madeCells, by8, Nat.mod_one]
theorem zeros_make (n : Nat) (hn : n ≤ 4294967296) (W : World) : (Instr.makeSlice 52 (.int .i64 (n : Int)) (.int .i64 (n : Int))).run Tryd.prog W = .ok (.slice (some ⟨W.heap.size, 0, none⟩) n n) (W.alloc (.cells (by8 (List.replicate n 0)).toArray 5)) := by
  obtain ⟨i0, hi0, hz0, hz1, hz2⟩ := info_parts u8info
  have h := run_make (P := Tryd.prog) W 52 5 i0 (.int .u8 0) Tryd.underlying52 hi0 hz0 .i64 .i64 (n : Int) (n : Int) (by omega) (by omega) (by rw [hz2]; omega) (by omega)
  rw [hz1, show (Value.int .u8 0).cells = #[.int .u8 0] from rfl, Nat.mul_one, Int.toNat_natCast, zeros_made] at h
  exact h
/-- Two rows in a slice of rows. -/
theorem ps_two {base base2 g : Nat} {w : World} {v v2 : Value} {L L2 : List UInt8} (h : BsT base w v L) (h2 : BsT base2 w v2 L2) (hg : RowAt w g 52 #[v, v2]) : Vf.Ps w (fun _ => True) (.slice (some ⟨g, 0, none⟩) 2 2) [L, L2] := by
  obtain ⟨A, c, e, k1, k2, hr⟩ := h
  obtain ⟨A', c', e', k1', k2', hr'⟩ := h2
  refine ⟨some ⟨g, 0, none⟩, 2, [v, v2], rfl, Nat.le_refl _, by unfold maxLen; omega, fun _ => ⟨_, rfl, hg.lt, trivial, fun j u hu => ?_⟩, ⟨[v], [v2], rfl, ⟨v, rfl, A, c, e, k1, k2, hr.mono fun _ _ _ => trivial⟩, [v2], [], rfl, ⟨v2, rfl, A', c', e', k1', k2', hr'.mono fun _ _ _ => trivial⟩, rfl⟩⟩
  rw [Addr.add_lit, Nat.zero_add, hg.cell]
  simpa using hu
theorem Wp.enc_size {h : Hd} (hv : h.val = true) : ∃ k : Nat, h.size = ((Wh.enc h.ag h.xf h.l).length : Int) + k ∧ k ≤ 1048576 ∧ (Wh.enc h.ag h.xf h.l).length ≤ 1048576 := by
  obtain ⟨_, _, _, ha⟩ := Wh.val_t hv
  obtain ⟨a1, a2, a3, a4, a5⟩ := Wh.av_t ha
  have he : (Wh.enc h.ag h.xf h.l).length = 16 + 12 * h.l.length := by
    unfold Wh.enc; rw [if_pos (show Wh.val h.ag h.xf h.l = true from hv), Wh.fours_len, Wh.ints_len]; omega
  have hs : h.size = Wh.ends h.l h.l.length := by unfold Hd.size Wh.size; rw [if_pos (show Wh.val h.ag h.xf h.l = true from hv)]
  have hsm := Wh.sm_bd (Wh.alls_cnt a3) h.l.length (Nat.le_refl _)
  have hen : Wh.ends h.l h.l.length = 16 + 12 * (h.l.length : Int) + Wh.sm h.l h.l.length := rfl
  refine ⟨(Wh.sm h.l h.l.length).toNat, ?_, by omega, by omega⟩
  rw [hs, he, hen]
  omega
theorem Wp.create_no {S : Vf.Sv} {n : List UInt8} {h : Hd} (hv : h.val = false) : Wp.create S n h = (S, 1) := by unfold Wp.create; rw [if_pos hv]
theorem Wp.create_yes {S : Vf.Sv} {n : List UInt8} {h : Hd} {k : Nat} (hv : h.val = true) (hk : h.size = ((Wh.enc h.ag h.xf h.l).length : Int) + k) :
    Wp.create S n h = if (Vf.create S n (Wh.enc h.ag h.xf h.l ++ List.replicate k 0)).2 = 0 then ({ (Vf.create S n (Wh.enc h.ag h.xf h.l ++ List.replicate k 0)).1 with was := (Vf.create S n (Wh.enc h.ag h.xf h.l ++ List.replicate k 0)).1.now, l := [] }, 0) else ((Vf.create S n (Wh.enc h.ag h.xf h.l ++ List.replicate k 0)).1, (Vf.create S n (Wh.enc h.ag h.xf h.l ++ List.replicate k 0)).2) := by
  have e : (h.size - ((Wh.enc h.ag h.xf h.l).length : Int)).toNat = k := by omega
  unfold Wp.create
  rw [if_neg (by rw [hv]; simp)]
  dsimp only
  rw [e]

theorem two_below {B : Nat} (w : World) (o o' : Obj) (hB : B ≤ w.heap.size) : Below B w ((w.alloc o).alloc o') := ((Below.refl _ _).alloc hB _).alloc (by simp; omega) _
theorem two_row (w : World) (o : Obj) (cs : Array Value) {t : TypeId} : RowAt ((w.alloc o).alloc (.cells cs t)) (w.heap.size + 1) t cs := by
  rw [show w.heap.size + 1 = (w.alloc o).heap.size by simp]
  exact RowAt.new _ _ _
theorem two_zero (w : World) (k : Nat) (hk : k ≤ 1048576) (o : Obj) : BsT 0 ((w.alloc (.cells (by8 (List.replicate k 0)).toArray 5)).alloc o) (.slice (some ⟨w.heap.size, 0, none⟩) k k) (List.replicate k 0) := by
  have h := OwnB.fresh w (List.replicate k 0) 0 (Nat.zero_le _) (by rw [List.length_replicate]; exact hk)
  rw [List.length_replicate] at h
  exact BsT.own (h.below ((Below.refl _ _).alloc (Nat.le_refl _) _)) (Nat.zero_le _)

end Go.Proofs.YtbakngbmfgnmcaaDoor

namespace Go.Proofs.YtbakngbmfgnmcaaDoor
open Go.RowKit Go.Sort
open Fx (Vl)
open Me
open Wp

theorem Wp.Ps.laid {w : World} {G : Nat → Prop} {v : Value} {ps : List (List UInt8)} (h : Vf.Ps w G v ps) : Vf.Ps w (fun b => b < w.heap.size) v ps := by
  obtain ⟨A, c, xs, e, h1, h2, h3, h4⟩ := h
  exact ⟨A, c, xs, e, h1, h2, h3.mono fun i hi _ => hi, h4.mono fun l cs hc => by
    obtain ⟨v, rfl, A', c', e', k1, k2, k3⟩ := hc
    exact ⟨v, rfl, A', c', e', k1, k2, k3.mono fun i hi _ => hi⟩⟩

set_option maxHeartbeats 1000000 in
theorem create_nil (n : List UInt8) (ag xf : Int) (A : Option Addr) (m cap : Nat) (w : World) : Calls Tryd.prog 5 #[.pointer none, .string ⟨n.toArray⟩, .agg #[.int .i64 ag, .int .i64 xf, .slice A m cap]] w fun e w' => e = .returned (.int .i64 1) ∧ Below w.heap.size w w' := by
  go_enter Tryd.func5, Tryd.ntmps5
  go_wp2_with fail
  go_ret
  exact ⟨rfl, (by repeat (first | exact Below.refl _ _ | assumption | refine Below.setCell ?_ (by first | (simp; done) | omega | (simp; omega) | (simp at *; omega)) _ | refine Below.alloc ?_ (by first | (simp; done) | omega | (simp; omega) | (simp at *; omega)) _ | refine Below.drew ?_ | (refine Below.trans ?_ (Below.mono (by assumption) (by first | (simp; done) | omega | (simp; omega) | (simp at *; omega)))) | (refine Below.trans ?_ (Below.mono (below_regrown _ _ _) (by first | (simp; done) | omega | (simp; omega) | (simp at *; omega))))))⟩

set_option maxRecDepth 100000 in
set_option maxHeartbeats 4000000 in
theorem create_yes_any {w : World} {V : Nat → Prop} {c fs : Nat} {S : Vf.Sv} (ro : PO w V fs c S) (hc : c ≤ 499000) (n : List UInt8) (h : Hd) (A : Option Addr) (cap : Nat) (hrow : Row w A h.l cap) :
    Calls Tryd.prog 5 #[.pointer (some ⟨fs, 0, none⟩), .string ⟨n.toArray⟩, .agg #[.int .i64 h.ag, .int .i64 h.xf, .slice A h.l.length cap]] w fun e w' => e = .returned (.int .i64 (Wp.create S n h).2) ∧ PO w' V fs (c + 1) (Wp.create S n h).1 ∧ Kp (fun b => ¬ V b) w w' := by
  have HEN : Hid (∀ W, Below w.heap.size w W → Calls Tryd.prog 9 #[.agg #[.int .i64 h.ag, .int .i64 h.xf, .slice A h.l.length cap]] W (Coded W (Wh.enc h.ag h.xf h.l) (if Wh.val h.ag h.xf h.l = true then 0 else 1))) := Lib.hid fun W hb => encode_any _ _ _ A cap W (hrow.below hb)
  have HSZ : Hid (∀ W, Below w.heap.size w W → Calls Tryd.prog 11 #[.agg #[.int .i64 h.ag, .int .i64 h.xf, .slice A h.l.length cap]] W fun e w' => e = .returned (.int .i64 h.size) ∧ Below W.heap.size W w') := Lib.hid fun W hb => wsize_any _ _ _ A cap W (hrow.below hb)
  have HRO := Lib.hid ro
  clear ro hrow
  have hX : Below w.heap.size w (w.alloc (.cells #[.int .i64 h.ag, .int .i64 h.xf, .slice A h.l.length cap] 27)) := (Below.refl _ _).alloc (Nat.le_refl _) _
  cases hv : h.val
  · have HQ := Lib.hid (create_no (S := S) (n := n) hv)
    rw [show Wh.val h.ag h.xf h.l = false from hv] at HEN
    simp only [Bool.false_eq_true, if_false] at HEN
    clear hv HSZ
    generalize Wp.create S n h = Q at *
    generalize Wh.enc h.ag h.xf h.l = E at *
    generalize h.ag = ag at *
    generalize h.xf = xf at *
    go_enter Tryd.func5, Tryd.ntmps5
    go_wp2_with (go_at_call 9; (with_reducible refine (HEN.out _ hX).mono ?_); rintro e w1 ⟨v1, rfl, ho1, hb1⟩; have HB1 := Lib.hid (hX.trans (hb1.mono hX.size)); clear hb1 ho1)
    go_ret
    exact ⟨by rw [HQ.out]; rfl, by rw [HQ.out]; exact (HRO.out.below HB1.out).more (by omega) (fun _ h => h), Kp.of_below HB1.out⟩
  · obtain ⟨k, hk, k1, k2⟩ := enc_size hv
    have HQ := Lib.hid (create_yes (S := S) (n := n) hv hk)
    rw [show Wh.val h.ag h.xf h.l = true from hv] at HEN
    simp only [if_true] at HEN
    rw [hk] at HSZ
    clear hv hk
    generalize Wp.create S n h = Q at *
    generalize hE : Wh.enc h.ag h.xf h.l = E at *
    clear hE
    have hmk := zeros_make k (by omega)
    generalize hCR : Vf.create S n (E ++ List.replicate k 0) = R at *
    have HCR := Lib.hid hCR
    clear hCR
    obtain ⟨m, hm⟩ : ∃ m, Hid (m = E.length) := ⟨_, Lib.hid rfl⟩
    rw [← hm.out] at HSZ k2
    have hsub : ((m : Int) + (k : Int)) - (m : Int) = (k : Int) := by omega
    have hwk : IntKind.i64.wrap (k : Int) = (k : Int) := IntWalk.i64_in _ (by omega)
    generalize h.ag = ag at *
    generalize h.xf = xf at *
    obtain ⟨sz, hsz⟩ : ∃ sz, (m : Int) + (k : Int) = sz := ⟨_, rfl⟩
    rw [hsz] at HSZ hsub
    have HFC : Hid (∀ W b0 v1 v2, Below w.heap.size w W → BsT 0 W v1 E → BsT 0 W v2 (List.replicate k 0) → RowAt W b0 52 #[v1, v2] → Calls Tryd.prog 10 #[.pointer (some ⟨fs, 0, none⟩), .string ⟨n.toArray⟩, .slice (some ⟨b0, 0, none⟩) 2 2] W fun e w' => e = .returned (.int .i64 R.2) ∧ PO w' V fs (c + 1) R.1 ∧ Kp (fun b => ¬ V b) W w') := Lib.hid fun W b0 v1 v2 hb h1 h2 hg => by
      have hfl : [E, List.replicate k 0].flatten = E ++ List.replicate k 0 := by simp
      have h := pocreate (HRO.out.below hb) (by omega) n [E, List.replicate k 0] _ (Wp.Ps.laid (ps_two h1 h2 hg)) (by simp) (by rw [hfl, List.length_append, List.length_replicate]; have := hm.out; omega) (fun _ h => h)
      rw [hfl, HCR.out] at h
      exact h
    by_cases hr0 : R.2 = 0
    · have HQ2 : Hid (Q = ({ R.1 with was := R.1.now, l := [] }, 0)) := Lib.hid (by rw [HQ.out, if_pos hr0])
      rw [hr0] at HFC
      clear HQ hr0
      go_enter Tryd.func5, Tryd.ntmps5
      go_wp2_with first
        | (go_at_call 9; (with_reducible refine (HEN.out _ hX).mono ?_); rintro e w1 ⟨v1, rfl, ho1, hb1⟩; have hbx := hb1; have HB1 := Lib.hid (hX.trans (hb1.mono hX.size)); have HO1 := Lib.hid ho1; obtain ⟨hc1, hf1⟩ := bcell hb1; have hq1 : w.heap.size < w1.heap.size := Nat.lt_of_lt_of_le (by simp) hb1.size; obtain ⟨A1, c1, rfl, _⟩ := ho1.lit; rw [← hm.out] at *; clear hb1 ho1 hbx)
        | (go_at_call 11; (with_reducible refine (HSZ.out _ HB1.out).mono ?_); rintro e w2 ⟨rfl, hb2⟩; have HB2 := Lib.hid (HB1.out.trans (hb2.mono HB1.out.size)); have HO2 := Lib.hid (HO1.out.below hb2); have hs2 := hb2.size; clear hb2)
        | (go_at_call 10; (with_reducible refine (HFC.out _ _ _ _ (HB2.out.trans (two_below w2 _ _ HB2.out.size)) (BsT.own (HO2.out.below (two_below w2 _ _ (Nat.le_refl _))) (Nat.zero_le _)) (two_zero w2 k (by omega) _) (two_row w2 _ _)).mono ?_); rintro e w3 ⟨rfl, hro3, hk3⟩; have HRO3 := Lib.hid hro3; have HK3 : Hid (Kp (fun b => ¬ V b) w w3) := Lib.hid ((Kp.of_below (HB2.out.trans (two_below w2 _ _ HB2.out.size))).trans hk3 (fun _ _ h => h)); clear hro3 hk3)
        | (go_at_call 12; (with_reducible refine (posync HRO3.out).mono ?_); rintro e w4 ⟨rfl, hro4, hk4⟩)
      go_ret
      exact ⟨by rw [HQ2.out]; rfl, by rw [HQ2.out]; exact hro4, HK3.out.trans hk4 (fun _ _ h => h)⟩
    · have HQ2 : Hid (Q = (R.1, R.2)) := Lib.hid (by rw [HQ.out, if_neg hr0])
      obtain ⟨R1, r⟩ := R
      have hrb : (r == 0) = false := by simpa using hr0
      clear HQ hr0
      go_enter Tryd.func5, Tryd.ntmps5
      go_wp2_with first
        | (go_at_call 9; (with_reducible refine (HEN.out _ hX).mono ?_); rintro e w1 ⟨v1, rfl, ho1, hb1⟩; have hbx := hb1; have HB1 := Lib.hid (hX.trans (hb1.mono hX.size)); have HO1 := Lib.hid ho1; obtain ⟨hc1, hf1⟩ := bcell hb1; have hq1 : w.heap.size < w1.heap.size := Nat.lt_of_lt_of_le (by simp) hb1.size; obtain ⟨A1, c1, rfl, _⟩ := ho1.lit; rw [← hm.out] at *; clear hb1 ho1 hbx)
        | (go_at_call 11; (with_reducible refine (HSZ.out _ HB1.out).mono ?_); rintro e w2 ⟨rfl, hb2⟩; have HB2 := Lib.hid (HB1.out.trans (hb2.mono HB1.out.size)); have HO2 := Lib.hid (HO1.out.below hb2); have hs2 := hb2.size; clear hb2)
        | (go_at_call 10; (with_reducible refine (HFC.out _ _ _ _ (HB2.out.trans (two_below w2 _ _ HB2.out.size)) (BsT.own (HO2.out.below (two_below w2 _ _ (Nat.le_refl _))) (Nat.zero_le _)) (two_zero w2 k (by omega) _) (two_row w2 _ _)).mono ?_); rintro e w3 ⟨rfl, hro3, hk3⟩; have HRO3 := Lib.hid hro3; have HK3 : Hid (Kp (fun b => ¬ V b) w w3) := Lib.hid ((Kp.of_below (HB2.out.trans (two_below w2 _ _ HB2.out.size))).trans hk3 (fun _ _ h => h)); clear hro3 hk3)
      go_ret
      exact ⟨by rw [HQ2.out]; rfl, by rw [HQ2.out]; exact HRO3.out, HK3.out⟩
end Go.Proofs.YtbakngbmfgnmcaaDoor

namespace Go.Proofs.YtbakngbmfgnmcaaDoor
open Go.RowKit Go.Sort
open Fx (Vl)
open Me
open Wp
/-- The program's files in blocks behind w0's; w0's own blocks are as they were. -/
def Ws.Kw (w0 : World) (fs c : Nat) (S : Vf.Sv) (W : World) : Prop := Below w0.heap.size w0 W ∧ ∃ V, PO W V fs c S ∧ ∀ b, b < w0.heap.size → V b
open Ws
theorem Ws.Kw.below {w0 W W' : World} {fs c : Nat} {S : Vf.Sv} (h : Kw w0 fs c S W) (hb : Below W.heap.size W W') : Kw w0 fs c S W' := by
  obtain ⟨h1, V, h2, h3⟩ := h
  exact ⟨h1.trans (hb.mono h1.size), V, h2.below hb, h3⟩
theorem Ws.new_any (w : World) : Calls Tryd.prog 4 #[.int .i64 65536] w fun e w' => e = .returned (.tuple #[.pointer (some ⟨w.heap.size, 0, none⟩), .int .i64 0]) ∧ Hid (Kw w w.heap.size 0 ⟨65536, [], [], []⟩ w') := by
  refine (pnew_any 65536 w (by decide) (by decide)).mono ?_
  rintro e w' ⟨rfl, ⟨M, h1, h2⟩, h3⟩
  exact ⟨rfl, Lib.hid ⟨h3, fun b => b < w.heap.size, ⟨M, h1, Vf.Inv.new (by decide) (by decide), fun b hb => ⟨Nat.lt_of_lt_of_le hb h3.size, fun hm => Nat.not_lt.2 (h2 b hm) hb⟩⟩, fun b hb => hb⟩⟩
theorem Ws.Kw.create {w0 W W1 : World} {fs c : Nat} {S : Vf.Sv} (h : Kw w0 fs c S W) (hb : Below W.heap.size W W1) (hc : c ≤ 499000) (n : List UInt8) (hd : Hd) (A : Option Addr) (cap : Nat) (hrow : Row W1 A hd.l cap) :
    Calls Tryd.prog 5 #[.pointer (some ⟨fs, 0, none⟩), .string ⟨n.toArray⟩, .agg #[.int .i64 hd.ag, .int .i64 hd.xf, .slice A hd.l.length cap]] W1 fun e w' => e = .returned (.int .i64 (Wp.create S n hd).2) ∧ Hid (Kw w0 fs (c + 1) (Wp.create S n hd).1 w') := by
  obtain ⟨h1, V, h2, h3⟩ := h
  refine (create_yes_any (h2.below hb) hc n hd A cap hrow).mono ?_
  rintro e w' ⟨rfl, p, k⟩
  exact ⟨rfl, Lib.hid ⟨(h1.trans (hb.mono h1.size)).trans (k.below (Nat.le_trans h1.size hb.size) (fun i hi ho => ho (h3 i hi))), V, p, h3⟩⟩
theorem Ws.Kw.update {w0 W W1 : World} {fs c : Nat} {S : Vf.Sv} (h : Kw w0 fs c S W) (hg : Gv w0) (hb : Below W.heap.size W W1) (n : List UInt8) (now : Int) (l : List (Int × Int)) (Ap : Option Addr) (capp : Nat) (hp : Row W1 Ap l capp)
    (hVp : ∀ a, Ap = some a → a.block < w0.heap.size ∨ (W.heap.size ≤ a.block ∧ a.block < W1.heap.size)) (hc : c + 27 * l.length ≤ 497000) :
    Calls Tryd.prog 6 #[.pointer (some ⟨fs, 0, none⟩), .string ⟨n.toArray⟩, .int .i64 now, .slice Ap l.length capp] W1 fun e w' => e = .returned (.tuple #[.int .i64 (update S n now l).2.1, .int .i64 (update S n now l).2.2]) ∧ Hid (Kw w0 fs (c + 27 * l.length) (update S n now l).1 w') := by
  obtain ⟨h1, V, h2, h3⟩ := h
  have h4 : Below w0.heap.size w0 W1 := h1.trans (hb.mono h1.size)
  refine (update_any7 (V := fun i => V i ∨ (W.heap.size ≤ i ∧ i < W1.heap.size)) (h2.add hb (fun i hi => hi)) (hg.below h4) (.inl (h3 0 hg.lt)) n now l Ap capp hp ?_ hc).mono ?_
  · intro a e
    rcases hVp a e with h | h
    · exact .inl (h3 _ h)
    · exact .inr h
  · rintro e w' ⟨rfl, p, k⟩
    exact ⟨rfl, Lib.hid ⟨h4.trans (k.below h4.size (fun i hi ho => ho (.inl (h3 i hi)))), V, p.more (Nat.le_refl _) (fun i hi => .inl hi), h3⟩⟩
theorem Ws.Kw.fetch_in {w0 W : World} {fs c : Nat} {S : Vf.Sv} (h : Kw w0 fs c S W) (n : List UInt8) (hnl : n.length ≤ 1048576) (now from_ until_ : Int) (h0 : (info S.now n).2 = 0) (hn1 : 1 ≤ now) (hn2 : now ≤ 4294967295) (ht : ¬ (until_ < from_ ∨ now < from_ ∨ until_ < 0 ∨ until_ < now - (info S.now n).1.span)) :
    Calls Tryd.prog 7 #[.pointer (some ⟨fs, 0, none⟩), .string ⟨n.toArray⟩, .int .i64 now, .int .i64 from_, .int .i64 until_] W (Fetched W n (fetch S.now n now from_ until_)) := by
  obtain ⟨h1, V, h2, h3⟩ := h
  exact fetch_in7 h2 n hnl now from_ until_ h0 hn1 hn2 ht

namespace Kt
def s0 : Vf.Sv := ⟨65536, [], [], []⟩
def hd : Hd := ⟨2, 0, [(1, 60), (60, 5)]⟩
def s1 : Vf.Sv := (create s0 [97] hd).1
def s2 : Vf.Sv := (update s1 [97] 100 [(99, 5)]).1
theorem c1 : (create s0 [97] hd).2 = 0 := by decide +kernel
theorem c2 : (update s1 [97] 100 [(99, 5)]).2 = (1, 0) := by decide +kernel
theorem c3 : (info s2.now [97]).2 = 0 := by decide +kernel
theorem c4 : ¬ ((99 : Int) < 98 ∨ (100 : Int) < 98 ∨ (99 : Int) < 0 ∨ (99 : Int) < 100 - (info s2.now [97]).1.span) := by decide +kernel
theorem c5 : fetch s2.now [97] 100 98 99 = (some ⟨99, 1, [⟨true, 5⟩]⟩, 0) := by kernel_rfl
end Kt

set_option maxRecDepth 100000 in
set_option maxHeartbeats 1600000 in
theorem known7_any (w : World) (hg : Gv w) : Calls Tryd.prog 8 #[] w fun e w' => e = .returned (.bool true) ∧ Below w.heap.size w w' := by
  have HN := Lib.hid (new_any w)
  obtain ⟨fs, hfs⟩ : ∃ fs, fs = w.heap.size := ⟨_, rfl⟩
  rw [← hfs] at HN
  clear hfs
  have HCR : Hid (∀ w1, Hid (Kw w fs 0 ⟨65536, [], [], []⟩ w1) → Calls Tryd.prog 5 #[.pointer (some ⟨fs, 0, none⟩), .string ⟨#[97]⟩, .agg #[.int .i64 2, .int .i64 0, .slice (some ⟨w1.heap.size, 0, none⟩) 2 2]]
      ((w1.alloc (.cells #[.int .i64 1, .int .i64 60, .int .i64 60, .int .i64 5] 24)).alloc (.cells #[.int .i64 2, .int .i64 0, .slice (some ⟨w1.heap.size, 0, none⟩) 2 2] 27)) fun e w' => e = .returned (.int .i64 0) ∧ Hid (Kw w fs 1 Kt.s1 w')) := Lib.hid fun w1 h => by
    have hb : Below w1.heap.size w1 ((w1.alloc (.cells #[.int .i64 1, .int .i64 60, .int .i64 60, .int .i64 5] 24)).alloc (.cells #[.int .i64 2, .int .i64 0, .slice (some ⟨w1.heap.size, 0, none⟩) 2 2] 27)) := ((Below.refl _ _).alloc (Nat.le_refl _) _).alloc (by simp) _
    have hr : RowAt ((w1.alloc (.cells #[.int .i64 1, .int .i64 60, .int .i64 60, .int .i64 5] 24)).alloc (.cells #[.int .i64 2, .int .i64 0, .slice (some ⟨w1.heap.size, 0, none⟩) 2 2] 27)) w1.heap.size 24 #[.int .i64 1, .int .i64 60, .int .i64 60, .int .i64 5] := (RowAt.new w1 _ _).below ((Below.refl _ _).alloc (Nat.le_refl _) _) (by simp)
    have hrow : Row ((w1.alloc (.cells #[.int .i64 1, .int .i64 60, .int .i64 60, .int .i64 5] 24)).alloc (.cells #[.int .i64 2, .int .i64 0, .slice (some ⟨w1.heap.size, 0, none⟩) 2 2] 27)) (some ⟨w1.heap.size, 0, none⟩) Kt.hd.l 2 := by
      refine ⟨Nat.le_refl _, fun _ => ⟨_, _, rfl, ⟨hr.lt, ?_, ?_⟩⟩⟩
      · intro i hi
        match i, hi with
        | 0, _ => exact hr.cell 0
        | 1, _ => exact hr.cell 2
      · intro i hi
        match i, hi with
        | 0, _ => exact hr.cell 1
        | 1, _ => exact hr.cell 3
    have := h.out.create hb (by decide) [97] Kt.hd (some ⟨w1.heap.size, 0, none⟩) 2 hrow
    rw [show (⟨65536, [], [], []⟩ : Vf.Sv) = Kt.s0 from rfl, Kt.c1] at this
    exact this
  have HUP : Hid (∀ w1, Hid (Kw w fs 1 Kt.s1 w1) → Calls Tryd.prog 6 #[.pointer (some ⟨fs, 0, none⟩), .string ⟨#[97]⟩, .int .i64 100, .slice (some ⟨w1.heap.size, 0, none⟩) 1 1]
      (w1.alloc (.cells #[.int .i64 99, .int .i64 5] 36)) fun e w' => e = .returned (.tuple #[.int .i64 1, .int .i64 0]) ∧ Hid (Kw w fs 28 Kt.s2 w')) := Lib.hid fun w1 h => by
    have hb : Below w1.heap.size w1 (w1.alloc (.cells #[.int .i64 99, .int .i64 5] 36)) := (Below.refl _ _).alloc (Nat.le_refl _) _
    have hr : RowAt (w1.alloc (.cells #[.int .i64 99, .int .i64 5] 36)) w1.heap.size 36 #[.int .i64 99, .int .i64 5] := RowAt.new w1 _ _
    have hrow : Row (w1.alloc (.cells #[.int .i64 99, .int .i64 5] 36)) (some ⟨w1.heap.size, 0, none⟩) [(99, 5)] 1 := by
      refine ⟨Nat.le_refl _, fun _ => ⟨_, _, rfl, ⟨hr.lt, ?_, ?_⟩⟩⟩
      · intro i hi
        match i, hi with
        | 0, _ => exact hr.cell 0
      · intro i hi
        match i, hi with
        | 0, _ => exact hr.cell 1
    have := h.out.update hg hb [97] 100 [(99, 5)] (some ⟨w1.heap.size, 0, none⟩) 1 hrow (fun a e => by injection e with e; subst e; exact .inr ⟨Nat.le_refl _, by simp⟩) (by decide)
    rw [Kt.c2] at this
    exact this
  have HFE : Hid (∀ w1, Hid (Kw w fs 28 Kt.s2 w1) → Calls Tryd.prog 7 #[.pointer (some ⟨fs, 0, none⟩), .string ⟨#[97]⟩, .int .i64 100, .int .i64 98, .int .i64 99] w1 fun e w' => ∃ b off cap, e = .returned (.tuple #[.agg #[.string ⟨#[97]⟩, .int .i64 99, .int .i64 1, .slice (some ⟨b, off, none⟩) 1 cap, .int .i64 0], .int .i64 0]) ∧ Hid (∀ W, Below w'.heap.size w' W → W.cell? ⟨b, off, none⟩ = some (.bool true) ∧ W.cell? ⟨b, off + 1, none⟩ = some (.int .i64 5)) ∧ Hid (Below w.heap.size w w')) := Lib.hid fun w1 h => by
    have := h.out.fetch_in [97] (by decide) 100 98 99 Kt.c3 (by decide) (by decide) Kt.c4
    rw [Kt.c5] at this
    refine this.mono ?_
    rintro e w' ⟨v, rfl, -, h2, h3⟩
    obtain ⟨x, rfl, ho⟩ := h2 _ rfl
    obtain ⟨b, off, cap, rfl, hv⟩ := OwnV.vals ho (by decide)
    refine ⟨b, off, cap, rfl, Lib.hid fun W hb => ?_, Lib.hid (h.out.1.trans (h3.mono h.out.1.size))⟩
    have hv2 := hv.below hb
    exact ⟨by simpa using hv2.ok 0 (by decide), by simpa using hv2.n 0 (by decide)⟩
  go_enter Tryd.func8, Tryd.ntmps8
  go_wp2_with (first
    | (go_at_call 4; (with_reducible refine (HN.out).mono ?_); rintro e w1 ⟨rfl, h1⟩)
    | (go_at_call 5; (with_reducible refine (HCR.out w1 h1).mono ?_); rintro e w2 ⟨rfl, h2⟩)
    | (go_at_call 6; (with_reducible refine (HUP.out w2 h2).mono ?_); rintro e w3 ⟨rfl, h3⟩)
    | (go_at_call 7; (with_reducible refine (HFE.out w3 h3).mono ?_); rintro e w4 ⟨b, off, cap, rfl, h4, hb4⟩; obtain ⟨y0, y1⟩ := h4.out (w4.alloc (.cells #[.string ⟨#[97]⟩, .int .i64 99, .int .i64 1, .slice (some ⟨b, off, none⟩) 1 cap, .int .i64 0] 39)) ((Below.refl _ _).alloc (Nat.le_refl _) _); have HB4 := Lib.hid hb4; have hs4 := hb4.size; clear hb4))
  go_ret
  exact ⟨rfl, HB4.out.alloc hs4 _⟩
end Go.Proofs.YtbakngbmfgnmcaaDoor

namespace Go.Proofs.YtbakngbmfgnmcaaDoor
open Wh (At)
namespace Wh

theorem byt_right (X Y : List UInt8) (i : Nat) (n : Nat) (hn : X.length = n) : byt (X ++ Y) (n + i) = byt Y i := by
  unfold byt
  rw [List.getD_eq_getElem?_getD, List.getD_eq_getElem?_getD, List.getElem?_append_right (by omega), hn, Nat.add_sub_cancel_left]
theorem nm_right (X Y : List UInt8) (i n : Nat) (hn : X.length = n) : nm (X ++ Y) (n + i) = nm Y i := by
  unfold nm
  rw [byt_right X Y i n hn, show n + i + 1 = n + (i + 1) by omega, byt_right X Y (i + 1) n hn, show n + i + 2 = n + (i + 2) by omega, byt_right X Y (i + 2) n hn, show n + i + 3 = n + (i + 3) by omega, byt_right X Y (i + 3) n hn]
theorem u8nat (x : Int) : ((UInt8.ofNat (x % 256).toNat).toNat : Int) = x % 256 := u8of x
theorem nm_four (n : Int) (Y : List UInt8) (h1 : 0 ≤ n) (h2 : n ≤ 4294967295) : nm (four n ++ Y) 0 = n := by
  unfold nm
  have e0 : (byt (four n ++ Y) 0 : Int) = (n / 16777216) % 256 := u8of _
  have e1 : (byt (four n ++ Y) (0 + 1) : Int) = (n / 65536) % 256 := u8of _
  have e2 : (byt (four n ++ Y) (0 + 2) : Int) = (n / 256) % 256 := u8of _
  have e3 : (byt (four n ++ Y) (0 + 3) : Int) = n % 256 := u8of _
  rw [e0, e1, e2, e3]
  omega
theorem nm_fours : ∀ (ns : List Int) (M : List UInt8) (i : Nat) (n : Int), ns[i]? = some n → (∀ m ∈ ns, 0 ≤ m ∧ m ≤ 4294967295) → nm (fours ns ++ M) (4 * i) = n
  | [], _, _, _, h, _ => by simp at h
  | m :: ns, M, 0, n, h, hb => by
    have e : m = n := by simpa using h
    subst e
    have := hb m (by simp)
    have e2 : fours (m :: ns) ++ M = four m ++ (fours ns ++ M) := by unfold fours; simp
    rw [e2]
    exact nm_four m _ this.1 this.2
  | m :: ns, M, i + 1, n, h, hb => by
    have e2 : fours (m :: ns) ++ M = four m ++ (fours ns ++ M) := by unfold fours; simp
    rw [e2, show 4 * (i + 1) = 4 + 4 * i by omega, nm_right (four m) _ (4 * i) 4 rfl]
    exact nm_fours ns M i n (by simpa using h) fun x hx => hb x (by simp [hx])
theorem ints_head (ag xf : Int) (l : List (Int × Int)) (k i : Nat) (hi : i < 4) : (ints ag xf l k)[i]? = [ag, lsp l, xf, (l.length : Int)][i]? := by
  induction k with
  | zero => rfl
  | succ k ih =>
    unfold ints
    rw [List.getElem?_append_left (by rw [ints_len]; omega)]
    exact ih
theorem ints_tail (ag xf : Int) (l : List (Int × Int)) (k i j : Nat) (hi : i < k) (hj : j < 3) : (ints ag xf l k)[4 + 3 * i + j]? = [ends l i, (At l i).1, (At l i).2][j]? := by
  induction k with
  | zero => omega
  | succ k ih =>
    unfold ints
    by_cases e : i = k
    · subst e
      rw [List.getElem?_append_right (by rw [ints_len]; omega), ints_len, show 4 + 3 * i + j - (4 + 3 * i) = j by omega]
    · rw [List.getElem?_append_left (by rw [ints_len]; omega)]
      exact ih (by omega)

theorem ints_ok {ag xf : Int} {l : List (Int × Int)} (hv : val ag xf l = true) : ∀ n ∈ ints ag xf l l.length, 0 ≤ n ∧ n ≤ 4294967295 := by
  obtain ⟨⟨g1, g2⟩, x1, x2, ha⟩ := val_t hv
  obtain ⟨a1, a2, a3, a4, a5⟩ := av_t ha
  have hl := lsp_bd a1 a3
  have key : ∀ k, k ≤ l.length → ∀ n ∈ ints ag xf l k, 0 ≤ n ∧ n ≤ 4294967295 := by
    intro k
    induction k with
    | zero =>
      intro _ n hn
      simp [ints] at hn
      rcases hn with rfl | rfl | rfl | rfl <;> omega
    | succ k ih =>
      intro hk n hn
      unfold ints at hn
      rw [List.mem_append] at hn
      rcases hn with hn | hn
      · exact ih (by omega) n hn
      · have h1 := alls_num (k := k) (by omega) a3
        have h2 := ends_bd a2 (alls_cnt a3) k (by omega)
        simp at hn
        rcases hn with rfl | rfl | rfl <;> omega
  exact key l.length (Nat.le_refl _)
theorem At_eq (l : List (Int × Int)) (i : Nat) (h : i < l.length) : l[i]? = some (At l i) := by
  unfold At
  rw [List.getD_eq_getElem?_getD, List.getElem?_eq_getElem h]
  rfl
/-- There and back. -/
theorem back {ag xf : Int} {l : List (Int × Int)} (hv : val ag xf l = true) (M : List UInt8) : dok (enc ag xf l ++ M) = true ∧ dag (enc ag xf l ++ M) = ag ∧ dxf (enc ag xf l ++ M) = xf ∧ dl (enc ag xf l ++ M) = l := by
  obtain ⟨⟨g1, g2⟩, x1, x2, ha⟩ := val_t hv
  obtain ⟨a1, a2, a3, a4, a5⟩ := av_t ha
  have he : enc ag xf l = fours (ints ag xf l l.length) := by unfold enc; rw [if_pos hv]
  have hlen : (enc ag xf l).length = 16 + 12 * l.length := by rw [he, fours_len, ints_len]; omega
  have hb := ints_ok hv
  have n0 : nm (enc ag xf l ++ M) 0 = ag := by rw [he]; exact nm_fours _ M 0 ag (ints_head ag xf l _ 0 (by omega)) hb
  have n8 : nm (enc ag xf l ++ M) 8 = xf := by rw [he]; exact nm_fours _ M 2 xf (ints_head ag xf l _ 2 (by omega)) hb
  have n12 : nm (enc ag xf l ++ M) 12 = (l.length : Int) := by rw [he]; exact nm_fours _ M 3 _ (ints_head ag xf l _ 3 (by omega)) hb
  have hc : cand (enc ag xf l ++ M) = l := by
    unfold cand
    rw [n12, Int.toNat_natCast]
    apply List.ext_getElem?
    intro i
    by_cases hi : i < l.length
    · rw [At_eq (archs _ _) i (by rw [archs_len]; exact hi), At_eq l i hi, archs_at _ _ i hi]
      have s1 : nm (enc ag xf l ++ M) (16 + 12 * i + 4) = (At l i).1 := by
        rw [he, show 16 + 12 * i + 4 = 4 * (4 + 3 * i + 1) by omega]
        exact nm_fours _ M _ _ (ints_tail ag xf l _ i 1 hi (by omega)) hb
      have s2 : nm (enc ag xf l ++ M) (16 + 12 * i + 8) = (At l i).2 := by
        rw [he, show 16 + 12 * i + 8 = 4 * (4 + 3 * i + 2) by omega]
        exact nm_fours _ M _ _ (ints_tail ag xf l _ i 2 hi (by omega)) hb
      rw [s1, s2]
    · rw [List.getElem?_eq_none (by rw [archs_len]; omega), List.getElem?_eq_none (by omega)]
  have hr : rok (enc ag xf l ++ M) = true := by
    unfold rok
    simp only [Bool.and_eq_true, decide_eq_true_eq]
    rw [n12, List.length_append, hlen]
    exact ⟨⟨by omega, by omega⟩, by omega⟩
  have hel : encL (enc ag xf l ++ M) = enc ag xf l := by unfold encL; rw [n0, n8, hc]
  have hd : dok (enc ag xf l ++ M) = true := by
    rw [dok_p hr (by rw [n0, n8, hc]; exact hv), hel]
    exact decide_eq_true ⟨by rw [List.length_append]; omega, List.take_left⟩
  obtain ⟨e1, e2, e3, _⟩ := dok_t hd
  exact ⟨hd, e1.trans n0, e2.trans n8, e3.trans hc⟩
end Wh
end Go.Proofs.YtbakngbmfgnmcaaDoor

namespace Go.Proofs.YtbakngbmfgnmcaaDoor
open Go.RowKit
open Fx (Vl)
open Vf (Has upd)
namespace Wp

theorem put_enc (B : List UInt8) (o : Nat) (t u : Int) : put B o t u = upd B o (Sl.enc t u) := rfl
theorem cut3 {B : List UInt8} {o k : Nat} (h : o + k ≤ B.length) : ∃ X Y Z : List UInt8, B = X ++ (Y ++ Z) ∧ X.length = o ∧ Y.length = k := by
  refine ⟨B.take o, (B.drop o).take k, (B.drop o).drop k, ?_, ?_, ?_⟩
  · rw [List.take_append_drop, List.take_append_drop]
  · rw [List.length_take]; omega
  · rw [List.length_take, List.length_drop]; omega
theorem slot_put {B : List UInt8} {o : Nat} {t u : Int} (ho : o + 12 ≤ B.length) (t0 : 0 ≤ t) (t1 : t ≤ 4294967295) (u1 : -9223372036854775808 ≤ u) (u2 : u ≤ 9223372036854775807) : slot (put B o t u) o = (t, u) := by
  obtain ⟨X, Y, Z, rfl, rfl, hY⟩ := cut3 ho
  have hE := Sl.enc_len t u
  rw [put_enc, upd_mid (by omega)]
  unfold slot
  rw [List.drop_left, List.take_append_of_le_length (by omega), List.take_of_length_le (by omega)]
  unfold pt Sl.dat Sl.dnn
  rw [if_pos hE, if_pos hE, Sl.back_at, Sl.back_n t u u1 u2]
  unfold Sl.lim
  rw [show min (max t 0) 4294967295 = t by omega]
theorem slot_else {B : List UInt8} {o o' : Nat} {t u : Int} (ho : o + 12 ≤ B.length) (h : o' + 12 ≤ o ∨ o + 12 ≤ o') : slot (put B o t u) o' = slot B o' := by
  obtain ⟨X, Y, Z, rfl, rfl, hY⟩ := cut3 ho
  have hE := Sl.enc_len t u
  rw [put_enc, upd_mid (by omega)]
  unfold slot
  congr 1
  rcases h with h | h
  · rw [List.drop_append_of_le_length (by omega), List.drop_append_of_le_length (by omega), List.take_append_of_le_length (by rw [List.length_drop]; omega), List.take_append_of_le_length (by rw [List.length_drop]; omega)]
  · have e1 : (X ++ (Sl.enc t u ++ Z)).drop o' = Z.drop (o' - (X.length + 12)) := by
      rw [← List.append_assoc, List.drop_append (l₁ := X ++ Sl.enc t u), List.drop_of_length_le (by rw [List.length_append]; omega), List.length_append, hE, List.nil_append]
    have e2 : (X ++ (Y ++ Z)).drop o' = Z.drop (o' - (X.length + 12)) := by
      rw [← List.append_assoc, List.drop_append (l₁ := X ++ Y), List.drop_of_length_le (by rw [List.length_append]; omega), List.length_append, hY, List.nil_append]
    rw [e1, e2]

/-- A file that stands under its header. -/
structure Stands (l : List Vf.Fl) (n : List UInt8) (h : Hd) (B : List UInt8) : Prop where
  fits : Fits l n h B
  head : ∃ M, B = Wh.enc h.ag h.xf h.l ++ M
theorem enc_len7 {h : Hd} (hv : h.val = true) : (Wh.enc h.ag h.xf h.l).length = 16 + 12 * h.l.length := by
  unfold Wh.enc; rw [if_pos (show Wh.val h.ag h.xf h.l = true from hv), Wh.fours_len, Wh.ints_len]; omega
theorem Stands.info {l : List Vf.Fl} {n : List UInt8} {h : Hd} {B : List UInt8} (f : Stands l n h B) : info l n = (h, 0) := by
  obtain ⟨M, rfl⟩ := f.head
  obtain ⟨k1, k2, k3, k4⟩ := Wh.back (show Wh.val h.ag h.xf h.l = true from f.fits.val) M
  have hs := f.fits.has.size_eq
  have hr := f.fits.has.read_eq (t := 0) (m := ((Wh.enc h.ag h.xf h.l ++ M).length : Int)) (by omega) (by omega) (by omega)
  rw [show ((0 : Int)).toNat = 0 from rfl, List.drop_zero, Int.toNat_natCast, List.take_length] at hr
  have hh : hdOf (Wh.enc h.ag h.xf h.l ++ M) = h := by unfold hdOf; rw [k2, k3, k4]
  have he := (Wh.dok_t k1).2.2.2
  unfold Wp.info
  rw [hs]
  dsimp only
  rw [if_neg (by omega), hr]
  dsimp only
  rw [hh, he, if_neg (by have := f.fits.size; omega)]
theorem at_lo {h : Hd} (hv : h.val = true) {i : Nat} (hi : i < h.l.length) {t : Int} (ht : 0 ≤ t) : 16 + 12 * (h.l.length : Int) ≤ at_ h i t ∧ h.offs (i : Int) ≤ at_ h i t ∧ at_ h i t + 12 ≤ h.offs (i : Int) + 12 * h.cnt i := by
  obtain ⟨⟨n1, n2⟩, n3, n4⟩ := Hd.nums hv i hi
  have h1 := ring_in hv hi
  have h2 := Sl.pl_bd n1 n3 ht
  unfold at_
  omega
theorem Stands.write {S : Vf.Sv} {n : List UInt8} {h : Hd} {B : List UInt8} (f : Stands S.now n h B) {i : Nat} (hi : i < h.l.length) (t u : Int) (ht : 0 ≤ t) : Stands (write S n h i t u).now n h (put B (at_ h i t).toNat (Sl.al t (h.step i)) u) := by
  refine ⟨f.fits.write hi t u ht, ?_⟩
  obtain ⟨M, rfl⟩ := f.head
  have hE := enc_len7 f.fits.val
  obtain ⟨q1, q2, q3⟩ := at_lo f.fits.val hi ht
  have q4 := (ring_in f.fits.val hi).2
  have q5 := f.fits.size
  have hl : (at_ h i t).toNat + 12 ≤ (Wh.enc h.ag h.xf h.l ++ M).length := by omega
  obtain ⟨k, hk⟩ : ∃ k, (at_ h i t).toNat = (Wh.enc h.ag h.xf h.l).length + k := ⟨(at_ h i t).toNat - (Wh.enc h.ag h.xf h.l).length, by omega⟩
  refine ⟨upd M k (Sl.enc (Sl.al t (h.step i)) u), ?_⟩
  rw [put_enc, hk]
  unfold upd
  rw [List.take_append, List.take_of_length_le (by omega), List.drop_append, List.drop_of_length_le (by omega), List.nil_append, List.append_assoc, List.append_assoc, List.append_assoc]
  congr 2
  · rw [Nat.add_sub_cancel_left]
  · rw [Nat.add_assoc, Nat.add_sub_cancel_left]

/-- The rings lie one behind the other. -/
theorem offs_less {h : Hd} (hv : h.val = true) {i j : Nat} (hij : i < j) (hj : j < h.l.length) : h.offs (i : Int) + 12 * h.cnt i ≤ h.offs (j : Int) := by
  obtain ⟨_, _, _, ha⟩ := Wh.val_t hv
  obtain ⟨a1, a2, a3, a4, a5⟩ := Wh.av_t ha
  have hc : ∀ k, k < j → 1 ≤ (Wh.At h.l k).2 := fun k hk => ((Wh.alls_num (by omega) a3).2).1
  rw [offs_eq hv (by omega : i < h.l.length), offs_eq hv hj]
  unfold Wh.ends
  have h1 := sm_mono (l := h.l) (i := i) j hc hij
  show _ + 12 * (Wh.At h.l i).2 ≤ _
  omega
/-- Two slots: the same, or apart. -/
theorem at_apart {h : Hd} (hv : h.val = true) {i j : Nat} (hi : i < h.l.length) (hj : j < h.l.length) {t u : Int} (ht : 0 ≤ t) (hu : 0 ≤ u) (hne : i ≠ j ∨ Sl.pl (h.step i) (h.cnt i) t ≠ Sl.pl (h.step j) (h.cnt j) u) :
    (at_ h i t).toNat + 12 ≤ (at_ h j u).toNat ∨ (at_ h j u).toNat + 12 ≤ (at_ h i t).toNat := by
  obtain ⟨p1, p2, p3⟩ := at_lo hv hi ht
  obtain ⟨q1, q2, q3⟩ := at_lo hv hj hu
  rcases Nat.lt_trichotomy i j with e | e | e
  · have := offs_less hv e hj
    omega
  · subst e
    have hne' : Sl.pl (h.step i) (h.cnt i) t ≠ Sl.pl (h.step i) (h.cnt i) u := by
      rcases hne with h | h
      · exact absurd rfl h
      · exact h
    unfold at_ at p1 q1 ⊢
    omega
  · have := offs_less hv e hi
    omega

/-- A slot that a climb does not reach. -/
theorem climb_keep {n : List UInt8} {h : Hd} {t : Int} (ht : 0 ≤ t) (o : Nat) (ho : ∀ i, 1 ≤ i → i < h.l.length → o + 12 ≤ (at_ h i t).toNat ∨ (at_ h i t).toNat + 12 ≤ o) : ∀ (m : Nat) (S : Vf.Sv) (k : Nat) (B : List UInt8), Stands S.now n h B → k + m < h.l.length →
    ∃ B', Stands (climb n h t m S k).now n h B' ∧ slot B' o = slot B o
  | 0, S, k, B, f, hk => ⟨B, f, rfl⟩
  | m + 1, S, k, B, f, hk => by
    have hs : ∃ B', Stands (passes S n h k t).1.now n h B' ∧ slot B' o = slot B o := by
      unfold Wp.passes
      dsimp only
      split
      · exact ⟨B, f, rfl⟩
      · refine ⟨_, f.write (i := k + 1) (by omega) t _ ht, slot_else ?_ (ho (k + 1) (by omega) (by omega))⟩
        have := f.fits.slot_in (i := k + 1) (by omega) t ht
        omega
    unfold climb
    split
    · obtain ⟨B1, f1, e1⟩ := hs
      obtain ⟨B2, f2, e2⟩ := climb_keep ht o ho m _ (k + 1) B1 f1 (by omega)
      exact ⟨B2, f2, e2.trans e1⟩
    · exact ⟨B, f, rfl⟩
/-- A point that is laid elsewhere. -/
theorem lays_keep {n : List UInt8} {h : Hd} {S : Vf.Sv} {B : List UInt8} (f : Stands S.now n h B) (now : Int) (p : Int × Int) (t0 : Int) (h0 : 0 ≤ t0) (hne : 1 ≤ p.1 → p.1 ≤ now → Sl.pl (h.step 0) (h.cnt 0) p.1 ≠ Sl.pl (h.step 0) (h.cnt 0) t0) :
    ∃ B', Stands (lays S n h now p).1.now n h B' ∧ slot B' (at_ h 0 t0).toNat = slot B (at_ h 0 t0).toNat := by
  have hl := Hd.len f.fits.val
  unfold Wp.lays
  split
  · exact ⟨B, f, rfl⟩
  rename_i hc
  have hp1 : 1 ≤ p.1 := by omega
  have hp2 : p.1 ≤ now := by omega
  split
  · exact ⟨B, f, rfl⟩
  rename_i i hi
  have hix := first_lt _ _ hi
  split
  · exact ⟨B, f, rfl⟩
  have hap : ∀ j, j < h.l.length → (at_ h 0 t0).toNat + 12 ≤ (at_ h j p.1).toNat ∨ (at_ h j p.1).toNat + 12 ≤ (at_ h 0 t0).toNat := fun j hj => by
    refine at_apart f.fits.val (by omega) hj h0 (by omega) ?_
    by_cases e : j = 0
    · subst e; exact .inr (hne hp1 hp2).symm
    · exact .inl (by omega)
  have hb := f.fits.slot_in (i := i) (by omega) p.1 (by omega)
  obtain ⟨B2, f2, e2⟩ := climb_keep (n := n) (h := h) (t := p.1) (by omega) (at_ h 0 t0).toNat (fun j _ hj => hap j hj) (h.l.length - 1 - i) _ i _ (f.write (i := i) (by omega) p.1 p.2 (by omega)) (by omega)
  refine ⟨B2, f2, e2.trans (slot_else (by omega) ?_)⟩
  exact hap i (by omega)
/-- A point that the finest archive covers. -/
theorem lays_fine {n : List UInt8} {h : Hd} {S : Vf.Sv} {B : List UInt8} (f : Stands S.now n h B) (now : Int) (p : Int × Int) (h1 : 1 ≤ p.1) (h2 : p.1 ≤ now) (hn : now ≤ 4294967295) (hr : Fx.inR p.2 = true) (hc : now - p.1 < h.step 0 * h.cnt 0) (ha : Sl.al p.1 (h.step 0) ≠ 0) :
    (lays S n h now p).2 = true ∧ ∃ B', Stands (lays S n h now p).1.now n h B' ∧ slot B' (at_ h 0 p.1).toNat = (Sl.al p.1 (h.step 0), p.2) := by
  have hl := Hd.len f.fits.val
  obtain ⟨⟨n1, n2⟩, n3, n4⟩ := Hd.nums f.fits.val 0 (by omega)
  have hfi : first h (now - p.1) h.l.length 0 = some 0 := by
    obtain ⟨m, hm⟩ : ∃ m, h.l.length = m + 1 := ⟨h.l.length - 1, by omega⟩
    rw [hm]
    exact first_yes hc
  have hal := Sl.al_bd n1 (by omega : 0 ≤ p.1)
  have hb := f.fits.slot_in (i := 0) (by omega) p.1 (by omega)
  have hu : -4611686018427387904 ≤ p.2 ∧ p.2 ≤ 4611686018427387904 := by unfold Fx.inR at hr; simpa using hr
  unfold Wp.lays
  rw [if_neg (by rw [hr]; simp; omega), hfi]
  dsimp only
  rw [if_neg ha]
  refine ⟨rfl, ?_⟩
  obtain ⟨B2, f2, e2⟩ := climb_keep (n := n) (h := h) (t := p.1) (by omega) (at_ h 0 p.1).toNat (fun j h1 hj => at_apart f.fits.val (by omega) hj (by omega) (by omega) (.inl (by omega))) (h.l.length - 1 - 0) _ 0 _ (f.write (i := 0) (by omega) p.1 p.2 (by omega)) (by omega)
  exact ⟨B2, f2, e2.trans (slot_put (by omega) (by omega) (by omega) (by omega) (by omega))⟩
/-- One point's update. -/
theorem update_one {n : List UInt8} {h : Hd} {S : Vf.Sv} {B : List UInt8} (f : Stands S.now n h B) (now : Int) (p : Int × Int) (h1 : 1 ≤ now) (h2 : now ≤ 4294967295) :
    (update S n now [p]).1.now = (lays S n h now p).1.now ∧ (update S n now [p]).2 = ((if (lays S n h now p).2 = true then 1 else 0), 0) := by
  have hi := f.info
  have := update_yes (S := S) (n := n) (now := now) (l := [p]) (by rw [hi]) h1 h2
  rw [this, hi]
  refine ⟨rfl, ?_⟩
  show (((if (lays S n h now p).2 = true then (0 : Int) + 1 else 0)), (0 : Int)) = _
  split <;> rfl
/-- What is fetched of one slot's time. -/
theorem fetch_slot {n : List UInt8} {h : Hd} {l : List Vf.Fl} {B : List UInt8} (f : Stands l n h B) (now t N t0 : Int) (ht0 : 1 ≤ t0) (ht : Sl.al t0 (h.step 0) = t) (htn : t ≠ 0) (hs : slot B (at_ h 0 t0).toNat = (t, N)) (hr : Fx.inR N = true)
    (h1 : t ≤ now) (h2 : now ≤ 4294967295) (hc : now - (t - 1) ≤ h.step 0 * h.cnt 0) :
    fetch l n now (t - 1) t = (some ⟨t, h.step 0, [⟨true, N⟩]⟩, 0) := by
  have hl := Hd.len f.fits.val
  have hv := f.fits.val
  obtain ⟨⟨n1, n2⟩, n3, n4⟩ := Hd.nums hv 0 (by omega)
  have hal := Sl.al_bd n1 (by omega : 0 ≤ t0)
  have hi := f.info
  have hspan : h.step 0 * h.cnt 0 ≤ h.span := by
    rw [Hd.span_eq hv]
    obtain ⟨_, _, _, ha⟩ := Wh.val_t hv
    have key : ∀ j, j < h.l.length → h.step 0 * h.cnt 0 ≤ h.step j * h.cnt j := fun j => by
      induction j with
      | zero => intro _; exact Int.le_refl _
      | succ j ih => intro hj; have := ih (by omega); have := (step_dvd hv (i := j) (by omega)).2.2; omega
    exact key _ (by omega)
  have hq : t / h.step 0 * h.step 0 = t := by
    have h3 := Sl.al_div n1 (by omega : 0 ≤ t0)
    have h4 := Sl.al_mul n1 (by omega : 0 ≤ t0)
    rw [ht] at h3 h4
    rw [h3, Int.mul_comm, ← h4]
  have halt : Sl.al t (h.step 0) = t := by rw [Sl.al_mul n1 (by omega), Int.mul_comm]; exact hq
  have halp : Sl.al (t - 1) (h.step 0) = t - h.step 0 := by
    have h5 : (t - 1) / h.step 0 = t / h.step 0 - 1 := by
      have e : t - 1 = (h.step 0 - 1) + (t / h.step 0 - 1) * h.step 0 := by rw [Int.sub_mul, hq]; omega
      rw [e, Int.add_mul_ediv_right _ _ (by omega : h.step 0 ≠ 0), Int.ediv_eq_zero_of_lt (by omega) (by omega)]
      omega
    rw [Sl.al_mul n1 (by omega), h5, Int.mul_comm, Int.sub_mul, hq]
    omega
  have hcl : clip h now (t - 1) = t - 1 := by unfold clip; omega
  have hmin : min t now = t := by omega
  have hfi : first h (now - (t - 1) - 1) h.l.length 0 = some 0 := by
    obtain ⟨m, hm⟩ : ∃ m, h.l.length = m + 1 := ⟨h.l.length - 1, by omega⟩
    rw [hm]
    exact first_yes (by omega)
  have hval : value l n h 0 t = ⟨true, N⟩ := by
    have hpl : at_ h 0 t = at_ h 0 t0 := by unfold at_; rw [← ht, pl_al n1 (by omega)]
    rw [f.fits.value_eq (by omega) t (by omega), halt, hpl, hs]
    dsimp only
    rw [if_neg (by omega)]
    unfold Fx.of
    rw [hr]
    rfl
  unfold fetch
  dsimp only
  rw [hi]
  dsimp only
  rw [if_neg (by omega), if_neg (by unfold time; simp; omega), if_neg (by omega), hcl, hmin, hfi]
  dsimp only
  rw [halp, halt, show t - h.step 0 + h.step 0 = t by omega, if_neg (by omega), show t + h.step 0 - t = h.step 0 by omega, Int.ediv_self (by omega)]
  show (some (⟨t, h.step 0, [value l n h 0 (t + ((0 : Nat) : Int) * h.step 0)]⟩ : Se), (0 : Int)) = _
  rw [show t + ((0 : Nat) : Int) * h.step 0 = t by simp, hval]
/-- A file that is new stands. -/
theorem create_stands {S : Vf.Sv} {n : List UInt8} {h : Hd} (hv : h.val = true) (h0 : (create S n h).2 = 0) (hh : ∀ b, (Vf.create S n b).2 = 0 → Has (Vf.create S n b).1.now n b) : ∃ B, Stands (create S n h).1.now n h B := by
  obtain ⟨_, _, _, ha⟩ := Wh.val_t hv
  unfold Wp.create at h0 ⊢
  rw [if_neg (by rw [hv]; simp)] at h0 ⊢
  dsimp only at h0 ⊢
  split at h0
  · rename_i hz
    rw [if_pos hz]
    refine ⟨_, ⟨hh _ hz, hv, ?_⟩, ⟨_, rfl⟩⟩
    have h1 := enc_len7 hv
    have h2 : ((Wh.enc h.ag h.xf h.l).length : Int) ≤ h.size := by
      have hr := ring_in hv (i := 0) (by have := Hd.len hv; omega)
      obtain ⟨⟨n1, n2⟩, n3, n4⟩ := Hd.nums hv 0 (by have := Hd.len hv; omega)
      omega
    rw [List.length_append, List.length_replicate]
    omega
  · rename_i hz
    exact absurd h0 hz
end Wp
end Go.Proofs.YtbakngbmfgnmcaaDoor

namespace Go.Proofs.YtbakngbmfgnmcaaDoor
open Go.RowKit Go.Sort
open Fx (Vl)
open Me
open Wp

/-- The file that a small header gets. -/
theorem create_new7 {h : Hd} (hv : h.val = true) (hs : h.size ≤ 3000) : (create Kt.s0 [97] h).2 = 0 ∧ ∃ B, Stands (create Kt.s0 [97] h).1.now [97] h B := by
  have key : ∀ b : List UInt8, (b.length : Int) ≤ 65536 → Vf.create Kt.s0 [97] b = (Kt.s0.act ⟨1, [97], 0, b⟩, 0) := fun b hb => by
    unfold Vf.create
    simp [Kt.s0, Vf.ix, Vf.ixFrom, Vf.used, Vf.is, hb]
  have hh : ∀ b : List UInt8, (Vf.create Kt.s0 [97] b).2 = 0 → Vf.Has (Vf.create Kt.s0 [97] b).1.now [97] b := fun b h0 => by
    by_cases hb : (b.length : Int) ≤ 65536
    · rw [key b hb]
      exact ⟨by decide, 0, [97], by rfl, by rfl⟩
    · exfalso
      revert h0
      unfold Vf.create
      simp [Kt.s0, Vf.ix, Vf.ixFrom, Vf.used, Vf.is]
      rw [if_pos (by omega)]
      simp
  have h1 := enc_len7 hv
  have h2 : ((Wh.enc h.ag h.xf h.l).length : Int) ≤ h.size := by
    have hr := ring_in hv (i := 0) (by have := Hd.len hv; omega)
    obtain ⟨⟨n1, n2⟩, n3, n4⟩ := Hd.nums hv 0 (by have := Hd.len hv; omega)
    omega
  have h0 : (create Kt.s0 [97] h).2 = 0 := by
    unfold Wp.create
    rw [if_neg (by rw [hv]; simp)]
    dsimp only
    rw [key _ (by rw [List.length_append, List.length_replicate]; omega)]
    rfl
  exact ⟨h0, create_stands hv h0 hh⟩
end Go.Proofs.YtbakngbmfgnmcaaDoor

namespace Go.Proofs.YtbakngbmfgnmcaaDoor
open Go.RowKit Go.Sort
open Fx (Vl)
open Me
open Wp

set_option maxRecDepth 100000 in
set_option maxHeartbeats 2000000 in
theorem fetch_late7 {w : World} {V : Nat → Prop} {c fs : Nat} {S : Vf.Sv} (ro : PO w V fs c S) (n : List UInt8) (now from_ until_ : Int) (h0 : (info S.now n).2 = 0) (hn : now < 1 ∨ 4294967295 < now) :
    Calls Tryd.prog 7 #[.pointer (some ⟨fs, 0, none⟩), .string ⟨n.toArray⟩, .int .i64 now, .int .i64 from_, .int .i64 until_] w (Fetched w n (fetch S.now n now from_ until_)) := by
  have HIN : Hid (∀ W, Below w.heap.size w W → Calls Tryd.prog 13 #[.pointer (some ⟨fs, 0, none⟩), .string ⟨n.toArray⟩] W (Opened W fs n (info S.now n))) := Lib.hid fun W hb => open_any (ro.below hb) n
  have HNW : Hid (∀ W, Calls Tryd.prog 14 #[.int .i64 now] W fun e w' => e = .returned (.bool false) ∧ W = w') := Lib.hid fun W => by
    have h := isnow_any now W
    rw [decide_eq_false (by omega)] at h
    exact h
  have HC := serCell w
  have HQ := Lib.hid (fetch_now (a := from_) (b := until_) h0 hn)
  have HZ := Lib.hid h0
  clear ro h0 hn
  generalize fetch S.now n now from_ until_ = Q at *
  generalize info S.now n = R at *
  obtain ⟨⟨ag, xf, hl⟩, er⟩ := R
  obtain rfl : er = 0 := HZ.out
  clear HZ
  obtain ⟨nb, hnb⟩ : ∃ nb : ByteArray, nb = ⟨n.toArray⟩ := ⟨_, rfl⟩
  have HNB := Lib.hid hnb
  rw [← hnb] at HIN ⊢
  clear hnb
  go_enter Tryd.func7, Tryd.ntmps7
  go_wp2_with first
    | (go_at_call 13; (with_reducible refine (HIN.out _ ((Below.refl _ _).alloc (Nat.le_refl _) _)).mono ?_); rintro e w1 ⟨A1, c1, p1, s1, rfl, hps, hrow, hfr, hb1⟩; obtain ⟨rfl, e2⟩ := hps rfl; have e3 : nb = s1 := HNB.out.trans e2.symm; clear e2; subst e3; have hbb : Below (w.heap.size + 1) (w.alloc (.cells #[.string ⟨#[]⟩, .int .i64 0, .int .i64 0, .slice none 0 0, .int .i64 0] 39)) w1 := hb1.mono (by simp); obtain ⟨⟨r0, r1, r2, r3, r4⟩, ⟨f0, f1, f2, f3, f4⟩, hs4⟩ := HC.out _ (hbb.alloc (by have := hbb.size; simpa using this) (.cells #[.int .i64 ag, .int .i64 xf, .slice A1 hl.length c1, .pointer (some ⟨fs, 0, none⟩), .string nb] 59)); have HB1 := Lib.hid hbb; have HROW := Lib.hid hrow; have hs1 := ser_below hbb; clear hb1 hrow hfr hps hbb)
    | (go_at_call 14; ((with_reducible refine (HNW.out _).mono ?_); rintro e w' ⟨rfl, rfl⟩))
  refine bodyPost_ret (v := .tuple #[.agg #[.string ⟨#[]⟩, .int .i64 0, .int .i64 0, .slice none 0 0, .int .i64 0], .int .i64 1]) (by simp [results, Tryd.results7, go_sem, *]) rfl (Fetched.no HQ.out ?_)
  exact below_set5 ((lowBox' HB1.out).alloc (by omega) _) (Nat.le_refl _)

set_option maxRecDepth 100000 in
set_option maxHeartbeats 4000000 in
theorem fetch_out7 {w : World} {V : Nat → Prop} {c fs : Nat} {S : Vf.Sv} (ro : PO w V fs c S) (n : List UInt8) (now from_ until_ : Int) (h0 : (info S.now n).2 = 0) (hn1 : 1 ≤ now) (hn2 : now ≤ 4294967295) (ht : until_ < from_ ∨ now < from_ ∨ until_ < 0 ∨ until_ < now - (info S.now n).1.span) :
    Calls Tryd.prog 7 #[.pointer (some ⟨fs, 0, none⟩), .string ⟨n.toArray⟩, .int .i64 now, .int .i64 from_, .int .i64 until_] w (Fetched w n (fetch S.now n now from_ until_)) := by
  have HIN : Hid (∀ W, Below w.heap.size w W → Calls Tryd.prog 13 #[.pointer (some ⟨fs, 0, none⟩), .string ⟨n.toArray⟩] W (Opened W fs n (info S.now n))) := Lib.hid fun W hb => open_any (ro.below hb) n
  have HNW : Hid (∀ W, Calls Tryd.prog 14 #[.int .i64 now] W fun e w' => e = .returned (.bool true) ∧ W = w') := Lib.hid fun W => by
    have h := isnow_any now W
    rw [decide_eq_true ⟨hn1, hn2⟩] at h
    exact h
  have HC := serCell w
  have HQ := Lib.hid (fetch_time h0 hn1 hn2 ht)
  obtain ⟨B0, hF⟩ := info_file h0
  have hsb := Hd.span_bd hF.val
  have HZ := Lib.hid h0
  have HSP : Hid (∀ A c W, Row W A (info S.now n).1.l c → Calls Tryd.prog 16 #[.agg #[.int .i64 (info S.now n).1.ag, .int .i64 (info S.now n).1.xf, .slice A (info S.now n).1.l.length c]] W fun e w' => e = .returned (.int .i64 (info S.now n).1.span) ∧ Below W.heap.size W w') := Lib.hid fun A c W h => spn_any _ _ _ A c W h
  clear ro h0 hF
  generalize fetch S.now n now from_ until_ = Q at *
  generalize info S.now n = R at *
  obtain ⟨⟨ag, xf, hl⟩, er⟩ := R
  obtain rfl : er = 0 := HZ.out
  clear HZ
  try dsimp only at HSP
  generalize (Hd.span (⟨ag, xf, hl⟩ : Hd)) = sp at *
  obtain ⟨lo, hlo⟩ : ∃ lo, now - sp = lo := ⟨_, rfl⟩
  have hwl : IntKind.i64.wrap lo = lo := IntWalk.i64_in _ (by omega)
  try dsimp only at ht
  rw [hlo] at ht
  obtain ⟨nb, hnb⟩ : ∃ nb : ByteArray, nb = ⟨n.toArray⟩ := ⟨_, rfl⟩
  have HNB := Lib.hid hnb
  rw [← hnb] at HIN ⊢
  clear hnb hsb
  by_cases t1 : until_ < from_
  · have HT := ht
    clear ht HT
    go_enter Tryd.func7, Tryd.ntmps7
    go_wp2_with first
      | (go_at_call 13; (with_reducible refine (HIN.out _ ((Below.refl _ _).alloc (Nat.le_refl _) _)).mono ?_); rintro e w1 ⟨A1, c1, p1, s1, rfl, hps, hrow, hfr, hb1⟩; obtain ⟨rfl, e2⟩ := hps rfl; have e3 : nb = s1 := HNB.out.trans e2.symm; clear e2; subst e3; have hbb : Below (w.heap.size + 1) (w.alloc (.cells #[.string ⟨#[]⟩, .int .i64 0, .int .i64 0, .slice none 0 0, .int .i64 0] 39)) w1 := hb1.mono (by simp); obtain ⟨⟨r0, r1, r2, r3, r4⟩, ⟨f0, f1, f2, f3, f4⟩, hs4⟩ := HC.out _ (hbb.alloc (by have := hbb.size; simpa using this) (.cells #[.int .i64 ag, .int .i64 xf, .slice A1 hl.length c1, .pointer (some ⟨fs, 0, none⟩), .string nb] 59)); have HB1 := Lib.hid hbb; have HROW := Lib.hid hrow; have hs1 := ser_below hbb; clear hb1 hrow hfr hps hbb)
      | (go_at_call 14; ((with_reducible refine (HNW.out _).mono ?_); rintro e w' ⟨rfl, rfl⟩))
      | (go_at_call 16; (with_reducible refine (HSP.out A1 c1 _ (HROW.out.below ((Below.refl _ _).alloc (Nat.le_refl _) _))).mono ?_); rintro e w2 ⟨rfl, hb2⟩; have hbb : Below (w.heap.size + 1) (w.alloc (.cells #[.string ⟨#[]⟩, .int .i64 0, .int .i64 0, .slice none 0 0, .int .i64 0] 39)) w2 := (HB1.out.alloc hs1 _).trans (hb2.mono (by simp; omega)); clear r0 r1 r2 r3 r4 f0 f1 f2 f3 f4 hs4; obtain ⟨⟨r0, r1, r2, r3, r4⟩, ⟨f0, f1, f2, f3, f4⟩, hs4⟩ := HC.out _ hbb; have HB2 := Lib.hid hbb; clear hbb hb2)
    refine bodyPost_ret (v := .tuple #[.agg #[.string ⟨#[]⟩, .int .i64 0, .int .i64 0, .slice none 0 0, .int .i64 0], .int .i64 7]) (by simp [results, Tryd.results7, go_sem, *]) rfl (Fetched.no HQ.out ?_)
    exact below_set5 (lowBox' HB2.out) (Nat.le_refl _)
  by_cases t2 : now < from_
  · have HT := ht
    clear ht HT
    go_enter Tryd.func7, Tryd.ntmps7
    go_wp2_with first
      | (go_at_call 13; (with_reducible refine (HIN.out _ ((Below.refl _ _).alloc (Nat.le_refl _) _)).mono ?_); rintro e w1 ⟨A1, c1, p1, s1, rfl, hps, hrow, hfr, hb1⟩; obtain ⟨rfl, e2⟩ := hps rfl; have e3 : nb = s1 := HNB.out.trans e2.symm; clear e2; subst e3; have hbb : Below (w.heap.size + 1) (w.alloc (.cells #[.string ⟨#[]⟩, .int .i64 0, .int .i64 0, .slice none 0 0, .int .i64 0] 39)) w1 := hb1.mono (by simp); obtain ⟨⟨r0, r1, r2, r3, r4⟩, ⟨f0, f1, f2, f3, f4⟩, hs4⟩ := HC.out _ (hbb.alloc (by have := hbb.size; simpa using this) (.cells #[.int .i64 ag, .int .i64 xf, .slice A1 hl.length c1, .pointer (some ⟨fs, 0, none⟩), .string nb] 59)); have HB1 := Lib.hid hbb; have HROW := Lib.hid hrow; have hs1 := ser_below hbb; clear hb1 hrow hfr hps hbb)
      | (go_at_call 14; ((with_reducible refine (HNW.out _).mono ?_); rintro e w' ⟨rfl, rfl⟩))
      | (go_at_call 16; (with_reducible refine (HSP.out A1 c1 _ (HROW.out.below ((Below.refl _ _).alloc (Nat.le_refl _) _))).mono ?_); rintro e w2 ⟨rfl, hb2⟩; have hbb : Below (w.heap.size + 1) (w.alloc (.cells #[.string ⟨#[]⟩, .int .i64 0, .int .i64 0, .slice none 0 0, .int .i64 0] 39)) w2 := (HB1.out.alloc hs1 _).trans (hb2.mono (by simp; omega)); clear r0 r1 r2 r3 r4 f0 f1 f2 f3 f4 hs4; obtain ⟨⟨r0, r1, r2, r3, r4⟩, ⟨f0, f1, f2, f3, f4⟩, hs4⟩ := HC.out _ hbb; have HB2 := Lib.hid hbb; clear hbb hb2)
    refine bodyPost_ret (v := .tuple #[.agg #[.string ⟨#[]⟩, .int .i64 0, .int .i64 0, .slice none 0 0, .int .i64 0], .int .i64 7]) (by simp [results, Tryd.results7, go_sem, *]) rfl (Fetched.no HQ.out ?_)
    exact below_set5 (lowBox' HB2.out) (Nat.le_refl _)
  by_cases t3 : until_ < 0
  · have HT := ht
    clear ht HT
    go_enter Tryd.func7, Tryd.ntmps7
    go_wp2_with first
      | (go_at_call 13; (with_reducible refine (HIN.out _ ((Below.refl _ _).alloc (Nat.le_refl _) _)).mono ?_); rintro e w1 ⟨A1, c1, p1, s1, rfl, hps, hrow, hfr, hb1⟩; obtain ⟨rfl, e2⟩ := hps rfl; have e3 : nb = s1 := HNB.out.trans e2.symm; clear e2; subst e3; have hbb : Below (w.heap.size + 1) (w.alloc (.cells #[.string ⟨#[]⟩, .int .i64 0, .int .i64 0, .slice none 0 0, .int .i64 0] 39)) w1 := hb1.mono (by simp); obtain ⟨⟨r0, r1, r2, r3, r4⟩, ⟨f0, f1, f2, f3, f4⟩, hs4⟩ := HC.out _ (hbb.alloc (by have := hbb.size; simpa using this) (.cells #[.int .i64 ag, .int .i64 xf, .slice A1 hl.length c1, .pointer (some ⟨fs, 0, none⟩), .string nb] 59)); have HB1 := Lib.hid hbb; have HROW := Lib.hid hrow; have hs1 := ser_below hbb; clear hb1 hrow hfr hps hbb)
      | (go_at_call 14; ((with_reducible refine (HNW.out _).mono ?_); rintro e w' ⟨rfl, rfl⟩))
      | (go_at_call 16; (with_reducible refine (HSP.out A1 c1 _ (HROW.out.below ((Below.refl _ _).alloc (Nat.le_refl _) _))).mono ?_); rintro e w2 ⟨rfl, hb2⟩; have hbb : Below (w.heap.size + 1) (w.alloc (.cells #[.string ⟨#[]⟩, .int .i64 0, .int .i64 0, .slice none 0 0, .int .i64 0] 39)) w2 := (HB1.out.alloc hs1 _).trans (hb2.mono (by simp; omega)); clear r0 r1 r2 r3 r4 f0 f1 f2 f3 f4 hs4; obtain ⟨⟨r0, r1, r2, r3, r4⟩, ⟨f0, f1, f2, f3, f4⟩, hs4⟩ := HC.out _ hbb; have HB2 := Lib.hid hbb; clear hbb hb2)
    refine bodyPost_ret (v := .tuple #[.agg #[.string ⟨#[]⟩, .int .i64 0, .int .i64 0, .slice none 0 0, .int .i64 0], .int .i64 7]) (by simp [results, Tryd.results7, go_sem, *]) rfl (Fetched.no HQ.out ?_)
    exact below_set5 (lowBox' HB2.out) (Nat.le_refl _)
  · have t4 : until_ < lo := by omega
    clear ht
    go_enter Tryd.func7, Tryd.ntmps7
    go_wp2_with first
      | (go_at_call 13; (with_reducible refine (HIN.out _ ((Below.refl _ _).alloc (Nat.le_refl _) _)).mono ?_); rintro e w1 ⟨A1, c1, p1, s1, rfl, hps, hrow, hfr, hb1⟩; obtain ⟨rfl, e2⟩ := hps rfl; have e3 : nb = s1 := HNB.out.trans e2.symm; clear e2; subst e3; have hbb : Below (w.heap.size + 1) (w.alloc (.cells #[.string ⟨#[]⟩, .int .i64 0, .int .i64 0, .slice none 0 0, .int .i64 0] 39)) w1 := hb1.mono (by simp); obtain ⟨⟨r0, r1, r2, r3, r4⟩, ⟨f0, f1, f2, f3, f4⟩, hs4⟩ := HC.out _ (hbb.alloc (by have := hbb.size; simpa using this) (.cells #[.int .i64 ag, .int .i64 xf, .slice A1 hl.length c1, .pointer (some ⟨fs, 0, none⟩), .string nb] 59)); have HB1 := Lib.hid hbb; have HROW := Lib.hid hrow; have hs1 := ser_below hbb; clear hb1 hrow hfr hps hbb)
      | (go_at_call 14; ((with_reducible refine (HNW.out _).mono ?_); rintro e w' ⟨rfl, rfl⟩))
      | (go_at_call 16; (with_reducible refine (HSP.out A1 c1 _ (HROW.out.below ((Below.refl _ _).alloc (Nat.le_refl _) _))).mono ?_); rintro e w2 ⟨rfl, hb2⟩; have hbb : Below (w.heap.size + 1) (w.alloc (.cells #[.string ⟨#[]⟩, .int .i64 0, .int .i64 0, .slice none 0 0, .int .i64 0] 39)) w2 := (HB1.out.alloc hs1 _).trans (hb2.mono (by simp; omega)); clear r0 r1 r2 r3 r4 f0 f1 f2 f3 f4 hs4; obtain ⟨⟨r0, r1, r2, r3, r4⟩, ⟨f0, f1, f2, f3, f4⟩, hs4⟩ := HC.out _ hbb; have HB2 := Lib.hid hbb; clear hbb hb2)
    refine bodyPost_ret (v := .tuple #[.agg #[.string ⟨#[]⟩, .int .i64 0, .int .i64 0, .slice none 0 0, .int .i64 0], .int .i64 7]) (by simp [results, Tryd.results7, go_sem, *]) rfl (Fetched.no HQ.out ?_)
    exact below_set5 (lowBox' HB2.out) (Nat.le_refl _)

theorem fetch_any7 {w : World} {V : Nat → Prop} {c fs : Nat} {S : Vf.Sv} (ro : PO w V fs c S) (n : List UInt8) (hnl : n.length ≤ 1048576) (now from_ until_ : Int) :
    Calls Tryd.prog 7 #[.pointer (some ⟨fs, 0, none⟩), .string ⟨n.toArray⟩, .int .i64 now, .int .i64 from_, .int .i64 until_] w (Fetched w n (fetch S.now n now from_ until_)) := by
  by_cases h0 : (info S.now n).2 = 0
  · by_cases hn : now < 1 ∨ 4294967295 < now
    · exact fetch_late7 ro n now from_ until_ h0 hn
    · by_cases ht : until_ < from_ ∨ now < from_ ∨ until_ < 0 ∨ until_ < now - (info S.now n).1.span
      · exact fetch_out7 ro n now from_ until_ h0 (by omega) (by omega) ht
      · exact fetch_in7 ro n hnl now from_ until_ h0 (by omega) (by omega) ht
  · rw [fetch_err h0]
    exact fetch_fail (g := fs) (R := info S.now n) h0 (Lib.hid fun W hb => open_any (ro.below hb) n)
end Go.Proofs.YtbakngbmfgnmcaaDoor
