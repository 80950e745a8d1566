/-
  WpCr: CONTRACTS: chapter 7, the document's Create.
  WqCr: CONTRACTS: chapter 7, the program's Create.
  WsKn: CONTRACTS: chapter 7's law: the program's file system act by act; the example that is known.
  WqRi: CONTRACTS: chapter 7, the program's Ring.
  WsNo: CONTRACTS: chapter 7's law of nothing: no file system, no files.
  WhOpen: A HEADER THAT COMES IN, AS DATA: its numbers, its row of archives.
-/
import Derived.Test.YtbhfapbhlkgmfaaDoorJ8
import Derived.Test.YtbhfapbhlkgmfaaDoorJ12
import Derived.Test.YtbhfapbhlkgmfaaDoorJ13
import Derived.Test.YtbhfapbhlkgmfaaDoorJ17
import Derived.Test.YtbhfapbhlkgmfaaDoorJ4
import Derived.Test.YtbhfapbhlkgmfaaDoorJ3
import Derived.Test.YtbhfapbhlkgmfaaDoorJ23
import Derived.Test.YtbhfapbhlkgmfaaDoorJ18
import Derived.Test.YtbhfapbhlkgmfaaDoorJ19
import Derived.Deep.Slices
import Derived.ProofKit
import Derived.OpenShut
import Derived.ChangeOld
import Derived.Lib.SmallJoins
import Derived.ChangeArms

namespace Go.Proofs.YtbhfapbhlkgmfaaDoor
open Go.RowKit Go.Sort
open Fx (Vl)
open Me
open Wp

theorem zeros_made (n : Nat) : madeCells #[.int .u8 0] n = (by8 (List.replicate n 0)).toArray := by
  apply Array.ext
  · rw [size_madeCells]; simp [by8_len]
  · intro i h1 h2
    simp [madeCells, by8, Nat.mod_one]
theorem zeros_make (n : Nat) (hn : n ≤ 4294967296) (W : World) : (Instr.makeSlice 65 (.int .i64 (n : Int)) (.int .i64 (n : Int))).run Tryd.prog W = .ok (.slice (some ⟨W.heap.size, 0, none⟩) n n) (W.alloc (.cells (by8 (List.replicate n 0)).toArray 5)) := by
  obtain ⟨i0, hi0, hz0, hz1, hz2⟩ := info_parts u8info
  have h := run_make (P := Tryd.prog) W 65 5 i0 (.int .u8 0) Tryd.underlying65 hi0 hz0 .i64 .i64 (n : Int) (n : Int) (by omega) (by omega) (by rw [hz2]; omega) (by omega)
  rw [hz1, show (Value.int .u8 0).cells = #[.int .u8 0] from rfl, Nat.mul_one, Int.toNat_natCast, zeros_made] at h
  exact h
/-- Two rows in a slice of rows. -/
theorem ps_two {base base2 g : Nat} {w : World} {v v2 : Value} {L L2 : List UInt8} (h : BsT base w v L) (h2 : BsT base2 w v2 L2) (hg : RowAt w g 65 #[v, v2]) : Vf.Ps w (fun _ => True) (.slice (some ⟨g, 0, none⟩) 2 2) [L, L2] := by
  obtain ⟨A, c, e, k1, k2, hr⟩ := h
  obtain ⟨A', c', e', k1', k2', hr'⟩ := h2
  refine ⟨some ⟨g, 0, none⟩, 2, [v, v2], rfl, Nat.le_refl _, by unfold maxLen; omega, fun _ => ⟨_, rfl, hg.lt, trivial, fun j u hu => ?_⟩, ⟨[v], [v2], rfl, ⟨v, rfl, A, c, e, k1, k2, hr.mono fun _ _ _ => trivial⟩, [v2], [], rfl, ⟨v2, rfl, A', c', e', k1', k2', hr'.mono fun _ _ _ => trivial⟩, rfl⟩⟩
  rw [Addr.add_lit, Nat.zero_add, hg.cell]
  simpa using hu
theorem Wp.enc_size {h : Hd} (hv : h.val = true) : ∃ k : Nat, h.size = ((Wh.enc h.ag h.xf h.l).length : Int) + k ∧ k ≤ 1048576 ∧ (Wh.enc h.ag h.xf h.l).length ≤ 1048576 := by
  obtain ⟨_, _, _, ha⟩ := Wh.val_t hv
  obtain ⟨a1, a2, a3, a4, a5⟩ := Wh.av_t ha
  have he : (Wh.enc h.ag h.xf h.l).length = 16 + 12 * h.l.length := by
    unfold Wh.enc; rw [if_pos (show Wh.val h.ag h.xf h.l = true from hv), Wh.fours_len, Wh.ints_len]; omega
  have hs : h.size = Wh.ends h.l h.l.length := by unfold Hd.size Wh.size; rw [if_pos (show Wh.val h.ag h.xf h.l = true from hv)]
  have hsm := Wh.sm_bd (Wh.alls_cnt a3) h.l.length (Nat.le_refl _)
  have hen : Wh.ends h.l h.l.length = 16 + 12 * (h.l.length : Int) + Wh.sm h.l h.l.length := rfl
  refine ⟨(Wh.sm h.l h.l.length).toNat, ?_, by omega, by omega⟩
  rw [hs, he, hen]
  omega
theorem Wp.create_no {S : Vf.Sv} {n : List UInt8} {h : Hd} (hv : h.val = false) : Wp.create S n h = (S, 1) := by unfold Wp.create; rw [if_pos hv]
theorem Wp.create_yes {S : Vf.Sv} {n : List UInt8} {h : Hd} {k : Nat} (hv : h.val = true) (hk : h.size = ((Wh.enc h.ag h.xf h.l).length : Int) + k) :
    Wp.create S n h = if (Vf.create S n (Wh.enc h.ag h.xf h.l ++ List.replicate k 0)).2 = 0 then ({ (Vf.create S n (Wh.enc h.ag h.xf h.l ++ List.replicate k 0)).1 with was := (Vf.create S n (Wh.enc h.ag h.xf h.l ++ List.replicate k 0)).1.now, l := [] }, 0) else ((Vf.create S n (Wh.enc h.ag h.xf h.l ++ List.replicate k 0)).1, (Vf.create S n (Wh.enc h.ag h.xf h.l ++ List.replicate k 0)).2) := by
  have e : (h.size - ((Wh.enc h.ag h.xf h.l).length : Int)).toNat = k := by omega
  unfold Wp.create
  rw [if_neg (by rw [hv]; simp)]
  dsimp only
  rw [e]

theorem two_below {B : Nat} (w : World) (o o' : Obj) (hB : B ≤ w.heap.size) : Below B w ((w.alloc o).alloc o') := ((Below.refl _ _).alloc hB _).alloc (by simp; omega) _
theorem two_row (w : World) (o : Obj) (cs : Array Value) {t : TypeId} : RowAt ((w.alloc o).alloc (.cells cs t)) (w.heap.size + 1) t cs := by
  rw [show w.heap.size + 1 = (w.alloc o).heap.size by simp]
  exact RowAt.new _ _ _
theorem two_zero (w : World) (k : Nat) (hk : k ≤ 1048576) (o : Obj) : BsT 0 ((w.alloc (.cells (by8 (List.replicate k 0)).toArray 5)).alloc o) (.slice (some ⟨w.heap.size, 0, none⟩) k k) (List.replicate k 0) := by
  have h := OwnB.fresh w (List.replicate k 0) 0 (Nat.zero_le _) (by rw [List.length_replicate]; exact hk)
  rw [List.length_replicate] at h
  exact BsT.own (h.below ((Below.refl _ _).alloc (Nat.le_refl _) _)) (Nat.zero_le _)

end Go.Proofs.YtbhfapbhlkgmfaaDoor

namespace Go.Proofs.YtbhfapbhlkgmfaaDoor
open Go.RowKit Go.Sort
open Fx (Vl)
open Me
open Wp

theorem Wp.Ps.laid {w : World} {G : Nat → Prop} {v : Value} {ps : List (List UInt8)} (h : Vf.Ps w G v ps) : Vf.Ps w (fun b => b < w.heap.size) v ps := by
  obtain ⟨A, c, xs, e, h1, h2, h3, h4⟩ := h
  exact ⟨A, c, xs, e, h1, h2, h3.mono fun i hi _ => hi, h4.mono fun l cs hc => by
    obtain ⟨v, rfl, A', c', e', k1, k2, k3⟩ := hc
    exact ⟨v, rfl, A', c', e', k1, k2, k3.mono fun i hi _ => hi⟩⟩

set_option maxHeartbeats 1000000 in
theorem create_nil (n : List UInt8) (ag xf : Int) (A : Option Addr) (m cap : Nat) (w : World) : Calls Tryd.prog 9 #[.pointer none, .string ⟨n.toArray⟩, .agg #[.int .i64 ag, .int .i64 xf, .slice A m cap]] w fun e w' => e = .returned (.int .i64 1) ∧ Below w.heap.size w w' := by
  go_enter Tryd.func9, Tryd.ntmps9
  go_wp2_with fail
  go_ret
  exact ⟨rfl, (by repeat (first | exact Below.refl _ _ | assumption | refine Below.setCell ?_ (by first | (simp; done) | omega | (simp; omega) | (simp at *; omega)) _ | refine Below.alloc ?_ (by first | (simp; done) | omega | (simp; omega) | (simp at *; omega)) _ | refine Below.drew ?_ | (refine Below.trans ?_ (Below.mono (by assumption) (by first | (simp; done) | omega | (simp; omega) | (simp at *; omega)))) | (refine Below.trans ?_ (Below.mono (below_regrown _ _ _) (by first | (simp; done) | omega | (simp; omega) | (simp at *; omega))))))⟩

set_option maxRecDepth 100000 in
set_option maxHeartbeats 4000000 in
theorem create_yes_any {w : World} {V : Nat → Prop} {c fs : Nat} {S : Vf.Sv} (ro : PO w V fs c S) (hc : c ≤ 499000) (n : List UInt8) (h : Hd) (A : Option Addr) (cap : Nat) (hrow : Row w A h.l cap) :
    Calls Tryd.prog 9 #[.pointer (some ⟨fs, 0, none⟩), .string ⟨n.toArray⟩, .agg #[.int .i64 h.ag, .int .i64 h.xf, .slice A h.l.length cap]] w fun e w' => e = .returned (.int .i64 (Wp.create S n h).2) ∧ PO w' V fs (c + 1) (Wp.create S n h).1 ∧ Kp (fun b => ¬ V b) w w' := by
  have HEN : Hid (∀ W, Below w.heap.size w W → Calls Tryd.prog 20 #[.agg #[.int .i64 h.ag, .int .i64 h.xf, .slice A h.l.length cap]] W (Coded W (Wh.enc h.ag h.xf h.l) (if Wh.val h.ag h.xf h.l = true then 0 else 1))) := Lib.hid fun W hb => encode_any _ _ _ A cap W (hrow.below hb)
  have HSZ : Hid (∀ W, Below w.heap.size w W → Calls Tryd.prog 22 #[.agg #[.int .i64 h.ag, .int .i64 h.xf, .slice A h.l.length cap]] W fun e w' => e = .returned (.int .i64 h.size) ∧ Below W.heap.size W w') := Lib.hid fun W hb => wsize_any _ _ _ A cap W (hrow.below hb)
  have HRO := Lib.hid ro
  clear ro hrow
  have hX : Below w.heap.size w (w.alloc (.cells #[.int .i64 h.ag, .int .i64 h.xf, .slice A h.l.length cap] 24)) := (Below.refl _ _).alloc (Nat.le_refl _) _
  cases hv : h.val
  · have HQ := Lib.hid (create_no (S := S) (n := n) hv)
    rw [show Wh.val h.ag h.xf h.l = false from hv] at HEN
    simp only [Bool.false_eq_true, if_false] at HEN
    clear hv HSZ
    generalize Wp.create S n h = Q at *
    generalize Wh.enc h.ag h.xf h.l = E at *
    generalize h.ag = ag at *
    generalize h.xf = xf at *
    go_enter Tryd.func9, Tryd.ntmps9
    go_wp2_with (go_at_call 20; (with_reducible refine (HEN.out _ hX).mono ?_); rintro e w1 ⟨v1, rfl, ho1, hb1⟩; have HB1 := Lib.hid (hX.trans (hb1.mono hX.size)); clear hb1 ho1)
    go_ret
    exact ⟨by rw [HQ.out]; rfl, by rw [HQ.out]; exact (HRO.out.below HB1.out).more (by omega) (fun _ h => h), Kp.of_below HB1.out⟩
  · obtain ⟨k, hk, k1, k2⟩ := enc_size hv
    have HQ := Lib.hid (create_yes (S := S) (n := n) hv hk)
    rw [show Wh.val h.ag h.xf h.l = true from hv] at HEN
    simp only [if_true] at HEN
    rw [hk] at HSZ
    clear hv hk
    generalize Wp.create S n h = Q at *
    generalize hE : Wh.enc h.ag h.xf h.l = E at *
    clear hE
    have hmk := zeros_make k (by omega)
    generalize hCR : Vf.create S n (E ++ List.replicate k 0) = R at *
    have HCR := Lib.hid hCR
    clear hCR
    obtain ⟨m, hm⟩ : ∃ m, Hid (m = E.length) := ⟨_, Lib.hid rfl⟩
    rw [← hm.out] at HSZ k2
    have hsub : ((m : Int) + (k : Int)) - (m : Int) = (k : Int) := by omega
    have hwk : IntKind.i64.wrap (k : Int) = (k : Int) := IntWalk.i64_in _ (by omega)
    generalize h.ag = ag at *
    generalize h.xf = xf at *
    obtain ⟨sz, hsz⟩ : ∃ sz, (m : Int) + (k : Int) = sz := ⟨_, rfl⟩
    rw [hsz] at HSZ hsub
    have HFC : Hid (∀ W b0 v1 v2, Below w.heap.size w W → BsT 0 W v1 E → BsT 0 W v2 (List.replicate k 0) → RowAt W b0 65 #[v1, v2] → Calls Tryd.prog 21 #[.pointer (some ⟨fs, 0, none⟩), .string ⟨n.toArray⟩, .slice (some ⟨b0, 0, none⟩) 2 2] W fun e w' => e = .returned (.int .i64 R.2) ∧ PO w' V fs (c + 1) R.1 ∧ Kp (fun b => ¬ V b) W w') := Lib.hid fun W b0 v1 v2 hb h1 h2 hg => by
      have hfl : [E, List.replicate k 0].flatten = E ++ List.replicate k 0 := by simp
      have h := pocreate (HRO.out.below hb) (by omega) n [E, List.replicate k 0] _ (Wp.Ps.laid (ps_two h1 h2 hg)) (by simp) (by rw [hfl, List.length_append, List.length_replicate]; have := hm.out; omega) (fun _ h => h)
      rw [hfl, HCR.out] at h
      exact h
    by_cases hr0 : R.2 = 0
    · have HQ2 : Hid (Q = ({ R.1 with was := R.1.now, l := [] }, 0)) := Lib.hid (by rw [HQ.out, if_pos hr0])
      rw [hr0] at HFC
      clear HQ hr0
      go_enter Tryd.func9, Tryd.ntmps9
      go_wp2_with first
        | (go_at_call 20; (with_reducible refine (HEN.out _ hX).mono ?_); rintro e w1 ⟨v1, rfl, ho1, hb1⟩; have hbx := hb1; have HB1 := Lib.hid (hX.trans (hb1.mono hX.size)); have HO1 := Lib.hid ho1; obtain ⟨hc1, hf1⟩ := bcell hb1; have hq1 : w.heap.size < w1.heap.size := Nat.lt_of_lt_of_le (by simp) hb1.size; obtain ⟨A1, c1, rfl, _⟩ := ho1.lit; rw [← hm.out] at *; clear hb1 ho1 hbx)
        | (go_at_call 22; (with_reducible refine (HSZ.out _ HB1.out).mono ?_); rintro e w2 ⟨rfl, hb2⟩; have HB2 := Lib.hid (HB1.out.trans (hb2.mono HB1.out.size)); have HO2 := Lib.hid (HO1.out.below hb2); have hs2 := hb2.size; clear hb2)
        | (go_at_call 21; (with_reducible refine (HFC.out _ _ _ _ (HB2.out.trans (two_below w2 _ _ HB2.out.size)) (BsT.own (HO2.out.below (two_below w2 _ _ (Nat.le_refl _))) (Nat.zero_le _)) (two_zero w2 k (by omega) _) (two_row w2 _ _)).mono ?_); rintro e w3 ⟨rfl, hro3, hk3⟩; have HRO3 := Lib.hid hro3; have HK3 : Hid (Kp (fun b => ¬ V b) w w3) := Lib.hid ((Kp.of_below (HB2.out.trans (two_below w2 _ _ HB2.out.size))).trans hk3 (fun _ _ h => h)); clear hro3 hk3)
        | (go_at_call 23; (with_reducible refine (posync HRO3.out).mono ?_); rintro e w4 ⟨rfl, hro4, hk4⟩)
      go_ret
      exact ⟨by rw [HQ2.out]; rfl, by rw [HQ2.out]; exact hro4, HK3.out.trans hk4 (fun _ _ h => h)⟩
    · have HQ2 : Hid (Q = (R.1, R.2)) := Lib.hid (by rw [HQ.out, if_neg hr0])
      obtain ⟨R1, r⟩ := R
      have hrb : (r == 0) = false := by simpa using hr0
      clear HQ hr0
      go_enter Tryd.func9, Tryd.ntmps9
      go_wp2_with first
        | (go_at_call 20; (with_reducible refine (HEN.out _ hX).mono ?_); rintro e w1 ⟨v1, rfl, ho1, hb1⟩; have hbx := hb1; have HB1 := Lib.hid (hX.trans (hb1.mono hX.size)); have HO1 := Lib.hid ho1; obtain ⟨hc1, hf1⟩ := bcell hb1; have hq1 : w.heap.size < w1.heap.size := Nat.lt_of_lt_of_le (by simp) hb1.size; obtain ⟨A1, c1, rfl, _⟩ := ho1.lit; rw [← hm.out] at *; clear hb1 ho1 hbx)
        | (go_at_call 22; (with_reducible refine (HSZ.out _ HB1.out).mono ?_); rintro e w2 ⟨rfl, hb2⟩; have HB2 := Lib.hid (HB1.out.trans (hb2.mono HB1.out.size)); have HO2 := Lib.hid (HO1.out.below hb2); have hs2 := hb2.size; clear hb2)
        | (go_at_call 21; (with_reducible refine (HFC.out _ _ _ _ (HB2.out.trans (two_below w2 _ _ HB2.out.size)) (BsT.own (HO2.out.below (two_below w2 _ _ (Nat.le_refl _))) (Nat.zero_le _)) (two_zero w2 k (by omega) _) (two_row w2 _ _)).mono ?_); rintro e w3 ⟨rfl, hro3, hk3⟩; have HRO3 := Lib.hid hro3; have HK3 : Hid (Kp (fun b => ¬ V b) w w3) := Lib.hid ((Kp.of_below (HB2.out.trans (two_below w2 _ _ HB2.out.size))).trans hk3 (fun _ _ h => h)); clear hro3 hk3)
      go_ret
      exact ⟨by rw [HQ2.out]; rfl, by rw [HQ2.out]; exact HRO3.out, HK3.out⟩
end Go.Proofs.YtbhfapbhlkgmfaaDoor

namespace Go.Proofs.YtbhfapbhlkgmfaaDoor
open Go.RowKit Go.Sort
open Fx (Vl)
open Me
open Wp
/-- The program's files in blocks behind w0's; w0's own blocks are as they were. -/
def Ws.Kw (w0 : World) (fs c : Nat) (S : Vf.Sv) (W : World) : Prop := Below w0.heap.size w0 W ∧ ∃ V, PO W V fs c S ∧ ∀ b, b < w0.heap.size → V b
open Ws
theorem Ws.Kw.below {w0 W W' : World} {fs c : Nat} {S : Vf.Sv} (h : Kw w0 fs c S W) (hb : Below W.heap.size W W') : Kw w0 fs c S W' := by
  obtain ⟨h1, V, h2, h3⟩ := h
  exact ⟨h1.trans (hb.mono h1.size), V, h2.below hb, h3⟩
theorem Ws.new_any (w : World) : Calls Tryd.prog 8 #[.int .i64 65536] w fun e w' => e = .returned (.tuple #[.pointer (some ⟨w.heap.size, 0, none⟩), .int .i64 0]) ∧ Hid (Kw w w.heap.size 0 ⟨65536, [], [], []⟩ w') := by
  refine (pnew_any 65536 w (by decide) (by decide)).mono ?_
  rintro e w' ⟨rfl, ⟨M, h1, h2⟩, h3⟩
  exact ⟨rfl, Lib.hid ⟨h3, fun b => b < w.heap.size, ⟨M, h1, Vf.Inv.new (by decide) (by decide), fun b hb => ⟨Nat.lt_of_lt_of_le hb h3.size, fun hm => Nat.not_lt.2 (h2 b hm) hb⟩⟩, fun b hb => hb⟩⟩
theorem Ws.Kw.create {w0 W W1 : World} {fs c : Nat} {S : Vf.Sv} (h : Kw w0 fs c S W) (hb : Below W.heap.size W W1) (hc : c ≤ 499000) (n : List UInt8) (hd : Hd) (A : Option Addr) (cap : Nat) (hrow : Row W1 A hd.l cap) :
    Calls Tryd.prog 9 #[.pointer (some ⟨fs, 0, none⟩), .string ⟨n.toArray⟩, .agg #[.int .i64 hd.ag, .int .i64 hd.xf, .slice A hd.l.length cap]] W1 fun e w' => e = .returned (.int .i64 (Wp.create S n hd).2) ∧ Hid (Kw w0 fs (c + 1) (Wp.create S n hd).1 w') := by
  obtain ⟨h1, V, h2, h3⟩ := h
  refine (create_yes_any (h2.below hb) hc n hd A cap hrow).mono ?_
  rintro e w' ⟨rfl, p, k⟩
  exact ⟨rfl, Lib.hid ⟨(h1.trans (hb.mono h1.size)).trans (k.below (Nat.le_trans h1.size hb.size) (fun i hi ho => ho (h3 i hi))), V, p, h3⟩⟩
theorem Ws.Kw.update {w0 W W1 : World} {fs c : Nat} {S : Vf.Sv} (h : Kw w0 fs c S W) (hg : Gv w0) (hb : Below W.heap.size W W1) (n : List UInt8) (now : Int) (l : List (Int × Int)) (Ap : Option Addr) (capp : Nat) (hp : Row W1 Ap l capp)
    (hVp : ∀ a, Ap = some a → a.block < w0.heap.size ∨ (W.heap.size ≤ a.block ∧ a.block < W1.heap.size)) (hc : c + 27 * l.length ≤ 497000) :
    Calls Tryd.prog 10 #[.pointer (some ⟨fs, 0, none⟩), .string ⟨n.toArray⟩, .int .i64 now, .slice Ap l.length capp] W1 fun e w' => e = .returned (.tuple #[.int .i64 (update S n now l).2.1, .int .i64 (update S n now l).2.2]) ∧ Hid (Kw w0 fs (c + 27 * l.length) (update S n now l).1 w') := by
  obtain ⟨h1, V, h2, h3⟩ := h
  have h4 : Below w0.heap.size w0 W1 := h1.trans (hb.mono h1.size)
  refine (update_any7 (V := fun i => V i ∨ (W.heap.size ≤ i ∧ i < W1.heap.size)) (h2.add hb (fun i hi => hi)) (hg.below h4) (.inl (h3 0 hg.lt)) n now l Ap capp hp ?_ hc).mono ?_
  · intro a e
    rcases hVp a e with h | h
    · exact .inl (h3 _ h)
    · exact .inr h
  · rintro e w' ⟨rfl, p, k⟩
    exact ⟨rfl, Lib.hid ⟨h4.trans (k.below h4.size (fun i hi ho => ho (.inl (h3 i hi)))), V, p.more (Nat.le_refl _) (fun i hi => .inl hi), h3⟩⟩
theorem Ws.Kw.fetch_in {w0 W : World} {fs c : Nat} {S : Vf.Sv} (h : Kw w0 fs c S W) (n : List UInt8) (hnl : n.length ≤ 1048576) (now from_ until_ : Int) (h0 : (info S.now n).2 = 0) (hn1 : 1 ≤ now) (hn2 : now ≤ 4294967295) (ht : ¬ (until_ < from_ ∨ now < from_ ∨ until_ < 0 ∨ until_ < now - (info S.now n).1.span)) :
    Calls Tryd.prog 13 #[.pointer (some ⟨fs, 0, none⟩), .string ⟨n.toArray⟩, .int .i64 now, .int .i64 from_, .int .i64 until_] W (Fetched W n (fetch S.now n now from_ until_)) := by
  obtain ⟨h1, V, h2, h3⟩ := h
  exact fetch_in7 h2 n hnl now from_ until_ h0 hn1 hn2 ht

namespace Kt
def s0 : Vf.Sv := ⟨65536, [], [], []⟩
def hd : Hd := ⟨2, 0, [(1, 60), (60, 5)]⟩
def s1 : Vf.Sv := (create s0 [97] hd).1
def s2 : Vf.Sv := (update s1 [97] 100 [(99, 5)]).1
theorem c1 : (create s0 [97] hd).2 = 0 := by decide +kernel
theorem c2 : (update s1 [97] 100 [(99, 5)]).2 = (1, 0) := by decide +kernel
theorem c3 : (info s2.now [97]).2 = 0 := by decide +kernel
theorem c4 : ¬ ((99 : Int) < 98 ∨ (100 : Int) < 98 ∨ (99 : Int) < 0 ∨ (99 : Int) < 100 - (info s2.now [97]).1.span) := by decide +kernel
theorem c5 : fetch s2.now [97] 100 98 99 = (some ⟨99, 1, [⟨true, 5⟩]⟩, 0) := by kernel_rfl
end Kt

set_option maxRecDepth 100000 in
set_option maxHeartbeats 1600000 in
theorem known7_any (w : World) (hg : Gv w) : Calls Tryd.prog 12 #[] w fun e w' => e = .returned (.bool true) ∧ Below w.heap.size w w' := by
  have HN := Lib.hid (new_any w)
  obtain ⟨fs, hfs⟩ : ∃ fs, fs = w.heap.size := ⟨_, rfl⟩
  rw [← hfs] at HN
  clear hfs
  have HCR : Hid (∀ w1, Hid (Kw w fs 0 ⟨65536, [], [], []⟩ w1) → Calls Tryd.prog 9 #[.pointer (some ⟨fs, 0, none⟩), .string ⟨#[97]⟩, .agg #[.int .i64 2, .int .i64 0, .slice (some ⟨w1.heap.size, 0, none⟩) 2 2]]
      ((w1.alloc (.cells #[.int .i64 1, .int .i64 60, .int .i64 60, .int .i64 5] 30)).alloc (.cells #[.int .i64 2, .int .i64 0, .slice (some ⟨w1.heap.size, 0, none⟩) 2 2] 24)) fun e w' => e = .returned (.int .i64 0) ∧ Hid (Kw w fs 1 Kt.s1 w')) := Lib.hid fun w1 h => by
    have hb : Below w1.heap.size w1 ((w1.alloc (.cells #[.int .i64 1, .int .i64 60, .int .i64 60, .int .i64 5] 30)).alloc (.cells #[.int .i64 2, .int .i64 0, .slice (some ⟨w1.heap.size, 0, none⟩) 2 2] 24)) := ((Below.refl _ _).alloc (Nat.le_refl _) _).alloc (by simp) _
    have hr : RowAt ((w1.alloc (.cells #[.int .i64 1, .int .i64 60, .int .i64 60, .int .i64 5] 30)).alloc (.cells #[.int .i64 2, .int .i64 0, .slice (some ⟨w1.heap.size, 0, none⟩) 2 2] 24)) w1.heap.size 30 #[.int .i64 1, .int .i64 60, .int .i64 60, .int .i64 5] := (RowAt.new w1 _ _).below ((Below.refl _ _).alloc (Nat.le_refl _) _) (by simp)
    have hrow : Row ((w1.alloc (.cells #[.int .i64 1, .int .i64 60, .int .i64 60, .int .i64 5] 30)).alloc (.cells #[.int .i64 2, .int .i64 0, .slice (some ⟨w1.heap.size, 0, none⟩) 2 2] 24)) (some ⟨w1.heap.size, 0, none⟩) Kt.hd.l 2 := by
      refine ⟨Nat.le_refl _, fun _ => ⟨_, _, rfl, ⟨hr.lt, ?_, ?_⟩⟩⟩
      · intro i hi
        match i, hi with
        | 0, _ => exact hr.cell 0
        | 1, _ => exact hr.cell 2
      · intro i hi
        match i, hi with
        | 0, _ => exact hr.cell 1
        | 1, _ => exact hr.cell 3
    have := h.out.create hb (by decide) [97] Kt.hd (some ⟨w1.heap.size, 0, none⟩) 2 hrow
    rw [show (⟨65536, [], [], []⟩ : Vf.Sv) = Kt.s0 from rfl, Kt.c1] at this
    exact this
  have HUP : Hid (∀ w1, Hid (Kw w fs 1 Kt.s1 w1) → Calls Tryd.prog 10 #[.pointer (some ⟨fs, 0, none⟩), .string ⟨#[97]⟩, .int .i64 100, .slice (some ⟨w1.heap.size, 0, none⟩) 1 1]
      (w1.alloc (.cells #[.int .i64 99, .int .i64 5] 26)) fun e w' => e = .returned (.tuple #[.int .i64 1, .int .i64 0]) ∧ Hid (Kw w fs 28 Kt.s2 w')) := Lib.hid fun w1 h => by
    have hb : Below w1.heap.size w1 (w1.alloc (.cells #[.int .i64 99, .int .i64 5] 26)) := (Below.refl _ _).alloc (Nat.le_refl _) _
    have hr : RowAt (w1.alloc (.cells #[.int .i64 99, .int .i64 5] 26)) w1.heap.size 26 #[.int .i64 99, .int .i64 5] := RowAt.new w1 _ _
    have hrow : Row (w1.alloc (.cells #[.int .i64 99, .int .i64 5] 26)) (some ⟨w1.heap.size, 0, none⟩) [(99, 5)] 1 := by
      refine ⟨Nat.le_refl _, fun _ => ⟨_, _, rfl, ⟨hr.lt, ?_, ?_⟩⟩⟩
      · intro i hi
        match i, hi with
        | 0, _ => exact hr.cell 0
      · intro i hi
        match i, hi with
        | 0, _ => exact hr.cell 1
    have := h.out.update hg hb [97] 100 [(99, 5)] (some ⟨w1.heap.size, 0, none⟩) 1 hrow (fun a e => by injection e with e; subst e; exact .inr ⟨Nat.le_refl _, by simp⟩) (by decide)
    rw [Kt.c2] at this
    exact this
  have HFE : Hid (∀ w1, Hid (Kw w fs 28 Kt.s2 w1) → Calls Tryd.prog 13 #[.pointer (some ⟨fs, 0, none⟩), .string ⟨#[97]⟩, .int .i64 100, .int .i64 98, .int .i64 99] w1 fun e w' => ∃ b off cap, e = .returned (.tuple #[.agg #[.string ⟨#[97]⟩, .int .i64 99, .int .i64 1, .slice (some ⟨b, off, none⟩) 1 cap, .int .i64 0], .int .i64 0]) ∧ Hid (∀ W, Below w'.heap.size w' W → W.cell? ⟨b, off, none⟩ = some (.bool true) ∧ W.cell? ⟨b, off + 1, none⟩ = some (.int .i64 5)) ∧ Hid (Below w.heap.size w w')) := Lib.hid fun w1 h => by
    have := h.out.fetch_in [97] (by decide) 100 98 99 Kt.c3 (by decide) (by decide) Kt.c4
    rw [Kt.c5] at this
    refine this.mono ?_
    rintro e w' ⟨v, rfl, -, h2, h3⟩
    obtain ⟨x, rfl, ho⟩ := h2 _ rfl
    obtain ⟨b, off, cap, rfl, hv⟩ := OwnV.vals ho (by decide)
    refine ⟨b, off, cap, rfl, Lib.hid fun W hb => ?_, Lib.hid (h.out.1.trans (h3.mono h.out.1.size))⟩
    have hv2 := hv.below hb
    exact ⟨by simpa using hv2.ok 0 (by decide), by simpa using hv2.n 0 (by decide)⟩
  go_enter Tryd.func12, Tryd.ntmps12
  go_wp2_with (first
    | (go_at_call 8; (with_reducible refine (HN.out).mono ?_); rintro e w1 ⟨rfl, h1⟩)
    | (go_at_call 9; (with_reducible refine (HCR.out w1 h1).mono ?_); rintro e w2 ⟨rfl, h2⟩)
    | (go_at_call 10; (with_reducible refine (HUP.out w2 h2).mono ?_); rintro e w3 ⟨rfl, h3⟩)
    | (go_at_call 13; (with_reducible refine (HFE.out w3 h3).mono ?_); rintro e w4 ⟨b, off, cap, rfl, h4, hb4⟩; obtain ⟨y0, y1⟩ := h4.out (w4.alloc (.cells #[.string ⟨#[97]⟩, .int .i64 99, .int .i64 1, .slice (some ⟨b, off, none⟩) 1 cap, .int .i64 0] 43)) ((Below.refl _ _).alloc (Nat.le_refl _) _); have HB4 := Lib.hid hb4; have hs4 := hb4.size; clear hb4))
  go_ret
  exact ⟨rfl, HB4.out.alloc hs4 _⟩
end Go.Proofs.YtbhfapbhlkgmfaaDoor

namespace Go.Proofs.YtbhfapbhlkgmfaaDoor
open Go.RowKit Go.Sort
open Fx (Vl)
open Me
open Wp

namespace Wp
theorem Fits.ring_eq {l : List Vf.Fl} {n : List UInt8} {h : Hd} {B : List UInt8} (f : Fits l n h B) {i : Nat} (hi : i < h.l.length) {C : Nat} (hC : h.cnt i = (C : Int)) : pts l n h i C = side B (h.offs (i : Int)).toNat C := by
  have hr := f.ring hi
  unfold pts side
  apply List.map_congr_left
  intro k hk
  have hk' := List.mem_range.1 hk
  rw [f.has.read_eq (by omega) (by omega) (by omega)]
  rw [show (h.offs (i : Int) + 12 * (k : Int)).toNat = (h.offs (i : Int)).toNat + 12 * k by omega]
  rfl
end Wp

set_option maxHeartbeats 1000000 in
theorem ring_nil7 (n : List UInt8) (i : Int) (w : World) : Calls Tryd.prog 14 #[.pointer none, .string ⟨n.toArray⟩, .int .i64 i] w (Ringed w ([], 1)) := by
  have HO := Lib.hid (open_nil n w)
  go_enter Tryd.func14, Tryd.ntmps14
  go_wp2_with (go_at_call 24; (with_reducible refine (HO.out).mono ?_); rintro e w2 ⟨A, cap, p, s, rfl, hps, hrow, hfr, hb2⟩; have HB2 := Lib.hid hb2; clear hb2)
  ((try simp only [Exit.inBlock, Exit.then]); refine bodyPost_ret (results_tmp2 rfl _ _ _) rfl ?_)
  exact ⟨.slice none 0 0, rfl, OwnP.nil _ _, HB2.out.alloc HB2.out.size _⟩

set_option maxRecDepth 100000 in
set_option maxHeartbeats 4000000 in
theorem ring_any7 {w : World} {V : Nat → Prop} {c fs : Nat} {S : Vf.Sv} (ro : PO w V fs c S) (n : List UInt8) (a : Int) :
    Calls Tryd.prog 14 #[.pointer (some ⟨fs, 0, none⟩), .string ⟨n.toArray⟩, .int .i64 a] w (Ringed w (ring S.now n a)) := by
  have HIN := Lib.hid (open_any ro n)
  have HRO := Lib.hid ro
  have HE1 := Lib.hid (ring_err (fs := S.now) (n := n) (i := a))
  have HE2 := Lib.hid (ring_no (fs := S.now) (n := n) (i := a))
  have HE3 := Lib.hid (fun i => ring_yes (fs := S.now) (n := n) (i := i))
  have HVL := Lib.hid (info_file (l := S.now) (n := n))
  clear ro
  generalize info S.now n = R at *
  obtain ⟨⟨ag, xf, hl⟩, er⟩ := R
  by_cases he : er = 0
  · subst he
    obtain ⟨B0, hB0⟩ := HVL.out rfl
    have hv := hB0.val
    have hlen := Hd.len hv
    by_cases ht1 : a < 0
    · have HQ := Lib.hid (HE2.out rfl (.inl ht1))
      clear HE1 HE2 HE3 HVL
      go_enter Tryd.func14, Tryd.ntmps14
      go_wp2_with (go_at_call 24; (with_reducible refine (HIN.out).mono ?_); rintro e w1 ⟨A1, c1, p1, s1, rfl, hps, hrow, hfr, hb1⟩; have HB1 := Lib.hid hb1; clear hb1 hrow hfr hps)
      ((try simp only [Exit.inBlock, Exit.then]); refine bodyPost_ret (results_tmp2 rfl _ _ _) rfl ?_)
      exact ⟨.slice none 0 0, by rw [HQ.out]; rfl, by rw [HQ.out]; exact OwnP.nil _ _, HB1.out.alloc HB1.out.size _⟩
    by_cases ht2 : (hl.length : Int) ≤ a
    · have HQ := Lib.hid (HE2.out rfl (.inr ht2))
      clear HE1 HE2 HE3 HVL
      go_enter Tryd.func14, Tryd.ntmps14
      go_wp2_with (go_at_call 24; (with_reducible refine (HIN.out).mono ?_); rintro e w1 ⟨A1, c1, p1, s1, rfl, hps, hrow, hfr, hb1⟩; have HB1 := Lib.hid hb1; clear hb1 hrow hfr hps)
      ((try simp only [Exit.inBlock, Exit.then]); refine bodyPost_ret (results_tmp2 rfl _ _ _) rfl ?_)
      exact ⟨.slice none 0 0, by rw [HQ.out]; rfl, by rw [HQ.out]; exact OwnP.nil _ _, HB1.out.alloc HB1.out.size _⟩
    obtain ⟨i, rfl⟩ : ∃ i : Nat, a = (i : Int) := ⟨a.toNat, by omega⟩
    have hi : i < hl.length := by omega
    have HQ := Lib.hid (HE3.out i rfl hi)
    clear HE1 HE2 HE3 HVL
    obtain ⟨H, hH⟩ : ∃ H, Hid (H = (⟨ag, xf, hl⟩ : Hd)) := ⟨_, Lib.hid rfl⟩
    rw [← hH.out] at HQ hB0 hv
    have hi2 : i < H.l.length := by rw [hH.out]; exact hi
    have hvH : H.val = true := hv
    have hFH : Fits S.now n H B0 := hB0
    clear hv hB0
    obtain ⟨⟨n1, n2⟩, n3, n4⟩ := Hd.nums hvH i hi2
    obtain ⟨C, hC⟩ : ∃ C : Nat, H.cnt i = (C : Int) := ⟨(H.cnt i).toNat, by omega⟩
    have HQ2 : Hid (ring S.now n (i : Int) = (round B0 (H.offs (i : Int)).toNat C 0 C, 0)) := Lib.hid (by rw [HQ.out, hC, Int.toNat_natCast, hFH.ring_eq hi2 hC, round_all])
    have HFV : Hid (∀ A c, fileV H A c fs n = .agg #[.int .i64 ag, .int .i64 xf, .slice A hl.length c, .pointer (some ⟨fs, 0, none⟩), .string ⟨n.toArray⟩]) := Lib.hid fun A c => by rw [hH.out]; rfl
    obtain ⟨o, ho⟩ : ∃ o, o = H.offs (i : Int) := ⟨_, rfl⟩
    obtain ⟨s, hs⟩ : ∃ s, s = H.step i := ⟨_, rfl⟩
    have HRV : Hid (∀ A c, ringV H i A c fs n = .agg #[.int .i64 s, .int .i64 (C : Int), .int .i64 ag, .int .i64 xf, .slice A hl.length c, .pointer (some ⟨fs, 0, none⟩), .string ⟨n.toArray⟩, .int .i64 o]) := Lib.hid fun A c => by rw [ho, hs, ← hC, hH.out]; rfl
    have HRG : Hid (∀ W A c, Row W A hl c → Calls Tryd.prog 28 #[.agg #[.int .i64 ag, .int .i64 xf, .slice A hl.length c, .pointer (some ⟨fs, 0, none⟩), .string ⟨n.toArray⟩], .int .i64 (i : Int)] W fun e w' => e = .returned (.agg #[.int .i64 s, .int .i64 (C : Int), .int .i64 ag, .int .i64 xf, .slice A hl.length c, .pointer (some ⟨fs, 0, none⟩), .string ⟨n.toArray⟩, .int .i64 o]) ∧ Below W.heap.size W w') := Lib.hid fun W A c hr => by
      have h := ring_any (fs := fs) (n := n) (h := H) (A := A) (cap := c) (by rw [hH.out]; exact hr) hvH i hi2
      rw [HFV.out, HRV.out] at h
      exact h
    have HPT : Hid (∀ W A c, Below w.heap.size w W → Calls Tryd.prog 33 #[.agg #[.int .i64 s, .int .i64 (C : Int), .int .i64 ag, .int .i64 xf, .slice A hl.length c, .pointer (some ⟨fs, 0, none⟩), .string ⟨n.toArray⟩, .int .i64 o], .int .i64 0, .int .i64 (C : Int)] W fun e w' => ∃ v, e = .returned v ∧ OwnP 26 W.heap.size w' v (round B0 (H.offs (i : Int)).toNat C 0 C) ∧ Below W.heap.size W w') := Lib.hid fun W A c hb => by
      have h := points_any (A := A) (cap := c) (HRO.out.below hb) hFH i hi2 0 C C hC (by omega) (Nat.le_refl _)
      rw [HRV.out] at h
      exact h
    have hil : (i : Int) < (hl.length : Int) := by omega
    have hi0 : (0 : Int) ≤ (i : Int) := by omega
    clear ho hs hC hFH hvH n1 n2 n3 n4 HQ
    go_enter Tryd.func14, Tryd.ntmps14
    go_wp2_with first
      | (go_at_call 24; (with_reducible refine (HIN.out).mono ?_); rintro e w1 ⟨A1, c1, p1, s1, rfl, hps, hrow, hfr, hb1⟩; obtain ⟨rfl, rfl⟩ := hps rfl; have HB1 := Lib.hid hb1; have HROW := Lib.hid hrow; have hs1 := hb1.size; clear hb1 hrow hfr)
      | (go_at_call 28; (with_reducible refine (HRG.out _ A1 c1 (HROW.out.below ((Below.refl _ _).alloc (Nat.le_refl _) _))).mono ?_); rintro e w3 ⟨rfl, hb3⟩; have HB3 : Hid (Below w.heap.size w w3) := Lib.hid ((HB1.out.alloc hs1 _).trans (hb3.mono (by simp; omega))); have hs3 := HB3.out.size; clear hb3)
      | (go_at_call 33; (with_reducible refine (HPT.out _ A1 c1 (HB3.out.alloc hs3 _)).mono ?_); rintro e w4 ⟨v4, rfl, ho4, hb4⟩; have hb4' : Below w.heap.size w w4 := (HB3.out.alloc hs3 _).trans (hb4.mono (by simp; omega)); have HB4 := Lib.hid hb4'; have HO4 : Hid (OwnP 26 w.heap.size w4 v4 (round B0 (H.offs (i : Int)).toNat C 0 C)) := Lib.hid (own_weak ho4 (by simp; omega)); clear hb4 hb4' ho4)
    ((try simp only [Exit.inBlock, Exit.then]); refine bodyPost_ret (results_tmp2 rfl _ _ _) rfl ?_)
    exact ⟨v4, by rw [HQ2.out]; rfl, by rw [HQ2.out]; exact HO4.out, HB4.out⟩
  · have HQ := Lib.hid (HE1.out he)
    have heb : (er == 0) = false := by simpa using he
    clear HE1 HE2 HE3 HVL
    go_enter Tryd.func14, Tryd.ntmps14
    go_wp2_with (go_at_call 24; (with_reducible refine (HIN.out).mono ?_); rintro e w1 ⟨A1, c1, p1, s1, rfl, hps, hrow, hfr, hb1⟩; have HB1 := Lib.hid hb1; clear hb1 hrow hfr hps)
    ((try simp only [Exit.inBlock, Exit.then]); refine bodyPost_ret (results_tmp2 rfl _ _ _) rfl ?_)
    exact ⟨.slice none 0 0, by rw [HQ.out]; rfl, by rw [HQ.out]; exact OwnP.nil _ _, HB1.out.alloc HB1.out.size _⟩
end Go.Proofs.YtbhfapbhlkgmfaaDoor

namespace Go.Proofs.YtbhfapbhlkgmfaaDoor
open Go.RowKit Go.Sort
open Fx (Vl)
open Me
open Wp

set_option maxRecDepth 100000 in
set_option maxHeartbeats 1600000 in
theorem same_zero (w : World) : Calls Tryd.prog 16 #[.agg #[.string ⟨#[]⟩, .int .i64 0, .int .i64 0, .slice none 0 0, .int .i64 0], .agg #[.string ⟨#[]⟩, .int .i64 0, .int .i64 0, .slice none 0 0, .int .i64 0]] w fun e w' => e = .returned (.bool true) ∧ Below w.heap.size w w' := by
  obtain ⟨X, hX⟩ : ∃ X, X = ((w.alloc (.cells #[.string ⟨#[]⟩, .int .i64 0, .int .i64 0, .slice none 0 0, .int .i64 0] 43)).alloc (.cells #[.string ⟨#[]⟩, .int .i64 0, .int .i64 0, .slice none 0 0, .int .i64 0] 43)) := ⟨_, rfl⟩
  have HX : Hid (Below w.heap.size w X) := Lib.hid (by rw [hX]; exact ((Below.refl _ _).alloc (Nat.le_refl _) _).alloc (by simp) _)
  have HC : Hid (∀ W, Below X.heap.size X W → W.cell? ⟨w.heap.size, 3, none⟩ = some (.slice none 0 0)) := Lib.hid fun W hb => by
    have h1 : RowAt X w.heap.size 43 #[.string ⟨#[]⟩, .int .i64 0, .int .i64 0, .slice none 0 0, .int .i64 0] := by rw [hX]; exact (RowAt.new w _ _).below ((Below.refl _ _).alloc (Nat.le_refl _) _) (by simp)
    exact (h1.below hb h1.lt).cell 3
  go_enter Tryd.func16, Tryd.ntmps16
  go_wp2_with fail
  rw [← hX]
  clear hX
  go_loopw [5] (fun u wr => u = .int .i64 0 ∧ Hid (Below X.heap.size X wr)) (fun _ _ => 0)
  case atStart => exact ⟨rfl, Lib.hid (Below.refl _ _)⟩
  case round =>
    obtain ⟨rfl, HB⟩ := hrel
    have y3 := HC.out _ HB.out
    go_wp2_with fail
    go_ret
    exact ⟨rfl, HX.out.trans (HB.out.mono HX.out.size)⟩

set_option maxRecDepth 100000 in
set_option maxHeartbeats 1600000 in
theorem headers_zero (A : Option Addr) (c : Nat) (w : World) : Calls Tryd.prog 17 #[.agg #[.int .i64 0, .int .i64 0, .slice A 0 c], .agg #[.int .i64 0, .int .i64 0, .slice none 0 0]] w fun e w' => e = .returned (.bool true) ∧ Below w.heap.size w w' := by
  obtain ⟨X, hX⟩ : ∃ X, X = ((w.alloc (.cells #[.int .i64 0, .int .i64 0, .slice A 0 c] 24)).alloc (.cells #[.int .i64 0, .int .i64 0, .slice none 0 0] 24)) := ⟨_, rfl⟩
  have HX : Hid (Below w.heap.size w X) := Lib.hid (by rw [hX]; exact ((Below.refl _ _).alloc (Nat.le_refl _) _).alloc (by simp) _)
  have HC : Hid (∀ W, Below X.heap.size X W → W.cell? ⟨w.heap.size, 2, none⟩ = some (.slice A 0 c)) := Lib.hid fun W hb => by
    have h1 : RowAt X w.heap.size 24 #[.int .i64 0, .int .i64 0, .slice A 0 c] := by rw [hX]; exact (RowAt.new w _ _).below ((Below.refl _ _).alloc (Nat.le_refl _) _) (by simp)
    exact (h1.below hb h1.lt).cell 2
  go_enter Tryd.func17, Tryd.ntmps17
  go_wp2_with fail
  rw [← hX]
  clear hX
  go_loopw [5] (fun u wr => u = .int .i64 0 ∧ Hid (Below X.heap.size X wr)) (fun _ _ => 0)
  case atStart => exact ⟨rfl, Lib.hid (Below.refl _ _)⟩
  case round =>
    obtain ⟨rfl, HB⟩ := hrel
    have y3 := HC.out _ HB.out
    go_wp2_with fail
    go_ret
    exact ⟨rfl, HX.out.trans (HB.out.mono HX.out.size)⟩
set_option maxRecDepth 100000 in
set_option maxHeartbeats 4000000 in
theorem lawNone7 (n : List UInt8) (ag xf : Int) (A : Option Addr) (m cap : Nat) (now : Int) (w : World) (hg : Gv w) : Calls Tryd.prog 5 #[.string ⟨n.toArray⟩, .agg #[.int .i64 ag, .int .i64 xf, .slice A m cap], .int .i64 now] w fun e w' => e = .returned (.bool true) ∧ Below w.heap.size w w' := by
  obtain ⟨X, hX⟩ : ∃ X, X = w.alloc (.cells #[.int .i64 ag, .int .i64 xf, .slice A m cap] 24) := ⟨_, rfl⟩
  have hbX : Below w.heap.size w X := by rw [hX]; exact (Below.refl _ _).alloc (Nat.le_refl _) _
  have HX := Lib.hid hbX
  have hxs : w.heap.size < X.heap.size := by rw [hX]; simp
  have hrx : RowAt X w.heap.size 24 #[.int .i64 ag, .int .i64 xf, .slice A m cap] := by rw [hX]; exact RowAt.new w _ _
  have HRX := Lib.hid hrx
  obtain ⟨p, hp⟩ : ∃ p, p = w.heap.size := ⟨_, rfl⟩
  have HG : Hid (∀ W, Below X.heap.size X W → Gv W) := Lib.hid fun W hb => (hg.below hbX).below hb
  have HKN : Hid (∀ W, Below X.heap.size X W → Calls Tryd.prog 12 #[] W fun e w' => e = .returned (.bool true) ∧ Below W.heap.size W w') := Lib.hid fun W hb => known7_any W (HG.out W hb)
  have HCR : Hid (∀ W, Calls Tryd.prog 9 #[.pointer none, .string ⟨n.toArray⟩, .agg #[.int .i64 ag, .int .i64 xf, .slice A m cap]] W fun e w' => e = .returned (.int .i64 1) ∧ Below W.heap.size W w') := Lib.hid fun W => create_nil n ag xf A m cap W
  have HUP : Hid (∀ W, Calls Tryd.prog 10 #[.pointer none, .string ⟨n.toArray⟩, .int .i64 now, .slice none 0 0] W fun e w' => e = .returned (.tuple #[.int .i64 0, .int .i64 1]) ∧ Below W.heap.size W w') := Lib.hid fun W => update_nil7 n now none 0 0 W
  have HFE : Hid (∀ W, Calls Tryd.prog 13 #[.pointer none, .string ⟨n.toArray⟩, .int .i64 now, .int .i64 now, .int .i64 now] W fun e w' => e = .returned (.tuple #[.agg #[.string ⟨#[]⟩, .int .i64 0, .int .i64 0, .slice none 0 0, .int .i64 0], .int .i64 1]) ∧ Below W.heap.size W w') := Lib.hid fun W => (fetch_nil7 n now now now W).mono fun e w' ⟨v, h1, h2, _, h4⟩ => ⟨by rw [h1, h2 rfl], h4⟩
  have HRI : Hid (∀ W, Calls Tryd.prog 14 #[.pointer none, .string ⟨n.toArray⟩, .int .i64 0] W fun e w' => ∃ A c, e = .returned (.tuple #[.slice A 0 c, .int .i64 1]) ∧ Below W.heap.size W w') := Lib.hid fun W => (ring_nil7 n 0 W).mono fun e w' ⟨v, h1, h2, h3⟩ => by
    obtain ⟨A, c, rfl⟩ := h2.slice
    exact ⟨A, c, h1, h3⟩
  have HIN : Hid (∀ W, Calls Tryd.prog 15 #[.pointer none, .string ⟨n.toArray⟩] W fun e w' => ∃ A c, e = .returned (.tuple #[.agg #[.int .i64 0, .int .i64 0, .slice A 0 c], .int .i64 1]) ∧ Below W.heap.size W w') := Lib.hid fun W => (info_nil7 n W).mono fun e w' ⟨A, c, h1, _, _, h3⟩ => ⟨A, c, h1, h3⟩
  obtain ⟨nb, hnb⟩ : ∃ nb : ByteArray, nb = ⟨n.toArray⟩ := ⟨_, rfl⟩
  have hsz : nb.size = n.length := by rw [hnb]; simp [ByteArray.size]
  rw [← hnb] at HCR HUP HFE HRI HIN ⊢
  clear hnb
  have h0 : X.cell? ⟨w.heap.size, 0, none⟩ = some (.int .i64 ag) := hrx.cell 0
  have h1 : X.cell? ⟨w.heap.size, 1, none⟩ = some (.int .i64 xf) := hrx.cell 1
  have h2 : X.cell? ⟨w.heap.size, 2, none⟩ = some (.slice A m cap) := hrx.cell 2
  clear hg hbX hrx
  rw [← hp] at h0 h1 h2 HRX hxs
  by_cases hc1 : (n.length : Int) > 300
  · go_enter Tryd.func5, Tryd.ntmps5
    go_wp2_with fail
    go_ret
    exact ⟨rfl, (by repeat (first | exact Below.refl _ _ | assumption | refine Below.setCell ?_ (by first | (simp; done) | omega | (simp; omega) | (simp at *; omega)) _ | refine Below.alloc ?_ (by first | (simp; done) | omega | (simp; omega) | (simp at *; omega)) _ | refine Below.drew ?_ | (refine Below.trans ?_ (Below.mono (by assumption) (by first | (simp; done) | omega | (simp; omega) | (simp at *; omega)))) | (refine Below.trans ?_ (Below.mono (below_regrown _ _ _) (by first | (simp; done) | omega | (simp; omega) | (simp at *; omega))))))⟩
  · by_cases hc2 : (m : Int) > 20
    · go_enter Tryd.func5, Tryd.ntmps5
      go_wp2_with fail
      go_ret
      exact ⟨rfl, (by repeat (first | exact Below.refl _ _ | assumption | refine Below.setCell ?_ (by first | (simp; done) | omega | (simp; omega) | (simp at *; omega)) _ | refine Below.alloc ?_ (by first | (simp; done) | omega | (simp; omega) | (simp at *; omega)) _ | refine Below.drew ?_ | (refine Below.trans ?_ (Below.mono (by assumption) (by first | (simp; done) | omega | (simp; omega) | (simp at *; omega)))) | (refine Below.trans ?_ (Below.mono (below_regrown _ _ _) (by first | (simp; done) | omega | (simp; omega) | (simp at *; omega))))))⟩
    · go_enter Tryd.func5, Tryd.ntmps5
      go_wp2_with fail
      rw [← hX, ← hp]
      clear hX hp
      go_wp2_with first
        | (go_at_call 10; (with_reducible refine (HUP.out _).mono ?_); rintro e w1 ⟨rfl, hb1⟩; have HB1 := Lib.hid hb1; clear hb1)
        | (go_at_call 13; (with_reducible refine (HFE.out _).mono ?_); rintro e w2 ⟨rfl, hb2⟩; have HB2 : Hid (Below X.heap.size X w2) := Lib.hid (HB1.out.trans (hb2.mono HB1.out.size)); clear hb2)
        | (go_at_call 14; (with_reducible refine (HRI.out _).mono ?_); rintro e w3 ⟨A3, c3, rfl, hb3⟩; have HR3 : Hid (RowAt w3 w2.heap.size 43 #[.string ⟨#[]⟩, .int .i64 0, .int .i64 0, .slice none 0 0, .int .i64 0]) := Lib.hid ((RowAt.new w2 _ _).below hb3 (by simp)); have HB3 : Hid (Below X.heap.size X w3) := Lib.hid ((HB2.out.alloc HB2.out.size _).trans (hb3.mono (by have := HB2.out.size; simp; omega))); clear hb3)
        | (go_at_call 15; (with_reducible refine (HIN.out _).mono ?_); rintro e w4 ⟨A4, c4, rfl, hb4⟩; have HB4 : Hid (Below X.heap.size X w4) := Lib.hid (HB3.out.trans (hb4.mono HB3.out.size)); obtain ⟨z0, z1, z2, z3, z4⟩ : (w4.alloc (.cells #[.int .i64 0, .int .i64 0, .slice A4 0 c4] 24)).cell? ⟨w2.heap.size, 0, none⟩ = some (.string ⟨#[]⟩) ∧ (w4.alloc (.cells #[.int .i64 0, .int .i64 0, .slice A4 0 c4] 24)).cell? ⟨w2.heap.size, 1, none⟩ = some (.int .i64 0) ∧ (w4.alloc (.cells #[.int .i64 0, .int .i64 0, .slice A4 0 c4] 24)).cell? ⟨w2.heap.size, 2, none⟩ = some (.int .i64 0) ∧ (w4.alloc (.cells #[.int .i64 0, .int .i64 0, .slice A4 0 c4] 24)).cell? ⟨w2.heap.size, 3, none⟩ = some (.slice none 0 0) ∧ (w4.alloc (.cells #[.int .i64 0, .int .i64 0, .slice A4 0 c4] 24)).cell? ⟨w2.heap.size, 4, none⟩ = some (.int .i64 0) := (by have h4 := HR3.out.below hb4 HR3.out.lt; have h5 := h4.below ((Below.refl _ _).alloc (Nat.le_refl _) (.cells #[.int .i64 0, .int .i64 0, .slice A4 0 c4] 24)) h4.lt; exact ⟨h5.cell 0, h5.cell 1, h5.cell 2, h5.cell 3, h5.cell 4⟩); clear hb4)
        | (go_at_call 16; (with_reducible refine (same_zero _).mono ?_); rintro e w5 ⟨rfl, hb5⟩; have HB5 : Hid (Below X.heap.size X w5) := Lib.hid ((HB4.out.alloc HB4.out.size _).trans (hb5.mono (by have := HB4.out.size; simp; omega))); obtain ⟨u0, u1, u2⟩ : w5.cell? ⟨w4.heap.size, 0, none⟩ = some (.int .i64 0) ∧ w5.cell? ⟨w4.heap.size, 1, none⟩ = some (.int .i64 0) ∧ w5.cell? ⟨w4.heap.size, 2, none⟩ = some (.slice A4 0 c4) := (by have h5 := (RowAt.new w4 #[.int .i64 0, .int .i64 0, .slice A4 0 c4] 24).below hb5 (by simp); exact ⟨h5.cell 0, h5.cell 1, h5.cell 2⟩); clear hb5 z0 z1 z2 z3 z4)
        | (go_at_call 17; (with_reducible refine (headers_zero _ _ _).mono ?_); rintro e w6 ⟨rfl, hb6⟩; have HB6 : Hid (Below X.heap.size X w6) := Lib.hid (HB5.out.trans (hb6.mono HB5.out.size)); obtain ⟨x0, x1, x2⟩ : w6.cell? ⟨p, 0, none⟩ = some (.int .i64 ag) ∧ w6.cell? ⟨p, 1, none⟩ = some (.int .i64 xf) ∧ w6.cell? ⟨p, 2, none⟩ = some (.slice A m cap) := (by have h6 := HRX.out.below HB6.out HRX.out.lt; exact ⟨h6.cell 0, h6.cell 1, h6.cell 2⟩); clear hb6 u0 u1 u2)
        | (go_at_call 9; (with_reducible refine (HCR.out _).mono ?_); rintro e w7 ⟨rfl, hb7⟩; have HB7 : Hid (Below X.heap.size X w7) := Lib.hid (HB6.out.trans (hb7.mono HB6.out.size)); clear hb7 x0 x1 x2)
        | (go_at_call 12; (with_reducible refine (HKN.out _ HB7.out).mono ?_); rintro e w8 ⟨rfl, hb8⟩; have HB8 : Hid (Below X.heap.size X w8) := Lib.hid (HB7.out.trans (hb8.mono HB7.out.size)); clear hb8)
      go_ret
      exact ⟨rfl, HX.out.trans (HB8.out.mono HX.out.size)⟩
end Go.Proofs.YtbhfapbhlkgmfaaDoor

namespace Go.Proofs.YtbhfapbhlkgmfaaDoor
open Go.RowKit Go.Sort
open Wh (At)

set_option maxRecDepth 100000
namespace WhOpen
open Go.ChangeShapes Go.WideShapes Go.ChangeAt Go.RowKit Go.Deep Go.Joins
theorem own : ownKnob Tryd.prog.godebug = none := by kernel_rfl
theorem laidOut : laidOutB Tryd.prog = true := by kernel_rfl
theorem adN (b off j : Nat) : (⟨b, off, none⟩ : Addr).add j = ⟨b, off + j, none⟩ := by simp [Addr.add]

theorem archives {H : Type} {enc : TypeId × Value → H} {w : World} {base : Nat} {spare : Nat → Bool} {held : Bool} {fuel : Nat} {x : Option Addr} {len cap : Nat} {y : DataW H × List MemPlace}
    (h : DataW.trod enc Tryd.prog w base spare held fuel 22 [.slice x len cap] = some y) :
    len ≤ cap ∧ ((x = none ∧ len = 0 ∧ cap = 0) ∨ (∃ a : Addr, x = some a ∧ ∀ i, i < len → ∃ (s c : Int), w.cell? (a.add (i * 2)) = some (.int .i64 s) ∧ w.cell? (a.add (i * 2 + 1)) = some (.int .i64 c))) := by
  rcases open_slice Tryd.underlying22 h with ⟨hcs, _⟩ | ⟨a, len', cap', m, n, D, Pl, hcs, _, hl, _, hm, _, hi⟩
  · simp at hcs
    obtain ⟨rfl, rfl, rfl⟩ := hcs
    exact ⟨Nat.le_refl _, .inl ⟨rfl, rfl, rfl⟩⟩
  · simp at hcs
    obtain ⟨rfl, rfl, rfl⟩ := hcs
    refine ⟨hl, .inr ⟨a, rfl, fun i hil => ?_⟩⟩
    have him : i < m := by rw [hm]; split <;> omega
    obtain ⟨cs', h1, h2⟩ := hi i him
    have hC : Tryd.prog.cellsOf 30 = 2 := by kernel_rfl
    rw [hC] at h1
    obtain ⟨_, hlen, hat⟩ := World.cells?_some h1
    match cs', hlen with
    | [c0, c1], _ =>
      obtain ⟨xs, n', _, _, _, _, hf⟩ := DataW.trod_struct Tryd.underlying30 h2
      have g0 := hf 0 _ rfl
      have g1 := hf 1 _ rfl
      have hn : Tryd.prog.cellsOf 3 = 1 := by kernel_rfl
      have hx2 : xs.length = 2 := by assumption
      have g0' : DataW.trod enc Tryd.prog w base spare held n' 3 [c0] = some (xs[0]'(by omega)) := by
        have e : xs[0]? = some (xs[0]'(by omega)) := List.getElem?_eq_getElem (by omega)
        rw [← e, ← g0]
        show _ = DataW.trod enc Tryd.prog w base spare held n' 3 (List.take (Tryd.prog.cellsOf 3) (List.drop 0 [c0, c1]))
        rw [hn]
        rfl
      have g1' : DataW.trod enc Tryd.prog w base spare held n' 3 [c1] = some (xs[1]'(by omega)) := by
        have e : xs[1]? = some (xs[1]'(by omega)) := List.getElem?_eq_getElem (by omega)
        rw [← e, ← g1]
        show _ = DataW.trod enc Tryd.prog w base spare held n' 3 (List.take (Tryd.prog.cellsOf 3) (List.drop 1 [c0, c1]))
        rw [hn]
        rfl
      obtain ⟨s, e0, _, _⟩ := DataW.trod_int Tryd.underlying3 g0'
      obtain ⟨c, e1, _, _⟩ := DataW.trod_int Tryd.underlying3 g1'
      simp at e0 e1
      subst e0 e1
      refine ⟨s, c, ?_, ?_⟩
      · have := hat 0 (by omega)
        simpa [Addr.add] using this
      · have := hat 1 (by omega)
        rw [Go.Deep.add_add] at this
        simpa using this

theorem listed {w : World} {b off : Nat} {n : Nat} (hc : ∀ i, i < n → ∃ (s c : Int), w.cell? ⟨b, off + i * 2, none⟩ = some (.int .i64 s) ∧ w.cell? ⟨b, off + i * 2 + 1, none⟩ = some (.int .i64 c)) :
    ∃ l : List (Int × Int), l.length = n ∧ ∀ i, i < n → w.cell? ⟨b, off + i * 2, none⟩ = some (.int .i64 (At l i).1) ∧ w.cell? ⟨b, off + i * 2 + 1, none⟩ = some (.int .i64 (At l i).2) := by
  induction n with
  | zero => exact ⟨[], rfl, fun i h => by omega⟩
  | succ m ih =>
    obtain ⟨l, e, hi⟩ := ih fun i h => hc i (by omega)
    obtain ⟨s, c, c0, c1⟩ := hc m (by omega)
    refine ⟨l ++ [(s, c)], by simp [e], fun i h => ?_⟩
    by_cases him : i < m
    · have ea : At (l ++ [(s, c)]) i = At l i := by unfold At; rw [List.getD_eq_getElem?_getD, List.getD_eq_getElem?_getD, List.getElem?_append_left (by omega)]
      rw [ea]; exact hi i him
    · obtain rfl : i = m := by omega
      have ea : At (l ++ [(s, c)]) i = (s, c) := by unfold At; rw [List.getD_eq_getElem?_getD, List.getElem?_append_right (by omega), e]; simp
      rw [ea]; exact ⟨c0, c1⟩

theorem row_of {w : World} {x : Option Addr} {len cap : Nat} (hl : len ≤ cap) (h : (x = none ∧ len = 0 ∧ cap = 0) ∨ (∃ a : Addr, x = some a ∧ ∀ i, i < len → ∃ (s c : Int), w.cell? (a.add (i * 2)) = some (.int .i64 s) ∧ w.cell? (a.add (i * 2 + 1)) = some (.int .i64 c))) :
    ∃ l : List (Int × Int), l.length = len ∧ Row w x l cap := by
  rcases h with ⟨rfl, rfl, rfl⟩ | ⟨a, rfl, hc⟩
  · exact ⟨[], rfl, Nat.le_refl _, fun h => by cases h⟩
  · by_cases h0 : len = 0
    · subst h0; exact ⟨[], rfl, Nat.zero_le _, fun h => by cases h⟩
    · obtain ⟨b, off, spot⟩ := a
      obtain ⟨s0, n0, hk0, _⟩ := hc 0 (by omega)
      have hspot : spot = none := by simpa [Addr.add] using World.cell?_spot hk0
      subst hspot
      obtain ⟨l, e, hi⟩ := listed (w := w) (b := b) (off := off) (n := len) fun i hil => by
        obtain ⟨s, c, c0, c1⟩ := hc i hil
        rw [adN] at c0 c1
        exact ⟨s, c, c0, by rw [Nat.add_assoc]; exact c1⟩
      refine ⟨l, e, by omega, fun _ => ⟨b, off, rfl, World.block_lt_of_cell? w _ (hi 0 (by omega)).1, fun i h => (hi i (by omega)).1, fun i h => (hi i (by omega)).2⟩⟩

/-- A header as it comes in. -/
theorem header {H : Type} {enc : TypeId × Value → H} {w : World} {r : Reach} {b0 base : Nat} {spare : Nat → Bool} {held : Bool} {v : Value} {d : DataW H} {p : List MemPlace}
    (hv : Value.okWide Tryd.prog w r b0 24 v) (h : DataW.Trod enc Tryd.prog w base spare held 24 v d p) :
    ∃ (ag xf : Int) (l : List (Int × Int)) (A : Option Addr) (cap : Nat), v = .agg #[.int .i64 ag, .int .i64 xf, .slice A l.length cap] ∧ Row w A l cap := by
  obtain ⟨v0, v1, v2, y0, y1, y2, n, rfl, _, _, t0, t1, t2⟩ := open_agg3 Tryd.underlying24 (by kernel_rfl) (by kernel_rfl) hv h
  obtain ⟨ag, e0, _, _⟩ := DataW.trod_int Tryd.underlying3 t0
  obtain ⟨xf, e1, _, _⟩ := DataW.trod_int Tryd.underlying3 t1
  simp at e0 e1
  subst e0 e1
  have hs : ∃ a len cap, v2 = .slice a len cap := by
    rcases open_slice Tryd.underlying22 t2 with ⟨hcs, _⟩ | ⟨a, len', cap', m, n, D, Pl, hcs, _⟩
    · simp at hcs; exact ⟨_, _, _, hcs⟩
    · simp at hcs; exact ⟨_, _, _, hcs⟩
  obtain ⟨a, len, cap, rfl⟩ := hs
  obtain ⟨hl, ho⟩ := archives t2
  obtain ⟨l, rfl, hr⟩ := row_of hl ho
  exact ⟨ag, xf, l, a, cap, rfl, hr⟩
end WhOpen
end Go.Proofs.YtbhfapbhlkgmfaaDoor
