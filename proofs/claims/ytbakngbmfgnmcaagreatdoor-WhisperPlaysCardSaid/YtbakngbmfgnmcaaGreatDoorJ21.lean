/- WsKn WhBack WrSlot WsSm WqFo WsKf WsKx WqRi WsNo WpFeB WpFeT WpFeS -/
import Derived.Test.YtbakngbmfgnmcaaGreatDoorJ1
import Derived.Test.YtbakngbmfgnmcaaGreatDoorJ20
import Derived.Test.YtbakngbmfgnmcaaGreatDoorJ11
import Derived.Test.YtbakngbmfgnmcaaGreatDoorJ4
import Derived.Test.YtbakngbmfgnmcaaGreatDoorJ12
import Derived.Test.YtbakngbmfgnmcaaGreatDoorJ14
import Derived.Test.YtbakngbmfgnmcaaGreatDoorJ6
import Derived.Test.YtbakngbmfgnmcaaGreatDoorJ16
import Derived.Test.YtbakngbmfgnmcaaGreatDoorJ17
namespace Go.Proofs.YtbakngbmfgnmcaaGreatDoor
set_option maxRecDepth 100000
set_option maxHeartbeats 8000000
section
open Go.RowKit Go.Sort
open Fx (Vl)
open Me
open Wp
def Ws.Kw (w0 : World) (fs c : Nat) (S : Vf.Sv) (W : World) : Prop := Below w0.heap.size w0 W ∧ ∃ V, PO W V fs c S ∧ ∀ b, b < w0.heap.size → V b
open Ws
theorem Ws.new_any (w : World) : Calls Tryz.prog 9 #[.int .i64 65536] w fun e w' => e = .returned (.tuple #[.pointer (some ⟨w.heap.size, 0, none⟩), .int .i64 0]) ∧ Hid (Kw w w.heap.size 0 ⟨65536, [], [], []⟩ w') := by
 refine (pnew_any 65536 w (by decide) (by decide)).mono ?_
 rintro e w' ⟨rfl, ⟨M, h1, h2⟩, h3⟩
 exact ⟨rfl, Lib.hid ⟨h3, fun b => b < w.heap.size, ⟨M, h1, Vf.Inv.new (by decide) (by decide), fun b hb => ⟨Nat.lt_of_lt_of_le hb h3.size, fun hm => Nat.not_lt.2 (h2 b hm) hb⟩⟩, fun b hb => hb⟩⟩
theorem Ws.Kw.create {w0 W W1 : World} {fs c : Nat} {S : Vf.Sv} (h : Kw w0 fs c S W) (hb : Below W.heap.size W W1) (hc : c ≤ 499000) (n : List UInt8) (hd : Hd) (A : Option Addr) (cap : Nat) (hrow : Row W1 A hd.l cap) :
 Calls Tryz.prog 11 #[.pointer (some ⟨fs, 0, none⟩), .string ⟨n.toArray⟩, .agg #[.int .i64 hd.ag, .int .i64 hd.xf, .slice A hd.l.length cap]] W1 fun e w' => e = .returned (.int .i64 (Wp.create S n hd).2) ∧ Hid (Kw w0 fs (c + 1) (Wp.create S n hd).1 w') := by
 obtain ⟨h1, V, h2, h3⟩ := h
 refine (create_yes_any (h2.below hb) hc n hd A cap hrow).mono ?_
 rintro e w' ⟨rfl, p, k⟩
 exact ⟨rfl, Lib.hid ⟨(h1.trans (hb.mono h1.size)).trans (k.below (Nat.le_trans h1.size hb.size) (fun i hi ho => ho (h3 i hi))), V, p, h3⟩⟩
theorem Ws.Kw.update {w0 W W1 : World} {fs c : Nat} {S : Vf.Sv} (h : Kw w0 fs c S W) (hg : Gv w0) (hb : Below W.heap.size W W1) (n : List UInt8) (now : Int) (l : List (Int × Int)) (Ap : Option Addr) (capp : Nat) (hp : Row W1 Ap l capp)
 (hVp : ∀ a, Ap = some a → a.block < w0.heap.size ∨ (W.heap.size ≤ a.block ∧ a.block < W1.heap.size)) (hc : c + 27 * l.length ≤ 497000) :
 Calls Tryz.prog 23 #[.pointer (some ⟨fs, 0, none⟩), .string ⟨n.toArray⟩, .int .i64 now, .slice Ap l.length capp] W1 fun e w' => e = .returned (.tuple #[.int .i64 (update S n now l).2.1, .int .i64 (update S n now l).2.2]) ∧ Hid (Kw w0 fs (c + 27 * l.length) (update S n now l).1 w') := by
 obtain ⟨h1, V, h2, h3⟩ := h
 have h4 : Below w0.heap.size w0 W1 := h1.trans (hb.mono h1.size)
 refine (update_any7 (V := fun i => V i ∨ (W.heap.size ≤ i ∧ i < W1.heap.size)) (h2.add hb (fun i hi => hi)) (hg.below h4) (.inl (h3 0 hg.lt)) n now l Ap capp hp ?_ hc).mono ?_
 ·intro _ a e
  rcases hVp a e with h | h
  ·exact .inl (h3 _ h)
  ·exact .inr h
 ·rintro e w' ⟨rfl, p, k⟩
  exact ⟨rfl, Lib.hid ⟨h4.trans (k.below h4.size (fun i hi ho => ho (.inl (h3 i hi)))), V, p.more (Nat.le_refl _) (fun i hi => .inl hi), h3⟩⟩
theorem Ws.Kw.fetch_in {w0 W : World} {fs c : Nat} {S : Vf.Sv} (h : Kw w0 fs c S W) (n : List UInt8) (hnl : n.length ≤ 1048576) (now from_ until_ : Int) (h0 : (info S.now n).2 = 0) (hn1 : 1 ≤ now) (hn2 : now ≤ 4294967295) (ht : ¬ (until_ < from_ ∨ now < from_ ∨ until_ < 0 ∨ until_ < now - (info S.now n).1.span)) :
 Calls Tryz.prog 36 #[.pointer (some ⟨fs, 0, none⟩), .string ⟨n.toArray⟩, .int .i64 now, .int .i64 from_, .int .i64 until_] W (Fetched W n (fetch S.now n now from_ until_)) := by
 obtain ⟨h1, V, h2, h3⟩ := h
 exact fetch_in7 h2 n hnl now from_ until_ h0 hn1 hn2 ht
namespace Kt
def s0 : Vf.Sv := ⟨65536, [], [], []⟩
def hd : Hd := ⟨2, 0, [(1, 60), (60, 5)]⟩
def s1 : Vf.Sv := (create s0 [97] hd).1
def s2 : Vf.Sv := (update s1 [97] 100 [(99, 5)]).1
theorem c1 : (create s0 [97] hd).2 = 0 := by decide +kernel
theorem c2 : (update s1 [97] 100 [(99, 5)]).2 = (1, 0) := by decide +kernel
theorem c3 : (info s2.now [97]).2 = 0 := by decide +kernel
theorem c4 : ¬ ((99 : Int) < 98 ∨ (100 : Int) < 98 ∨ (99 : Int) < 0 ∨ (99 : Int) < 100 - (info s2.now [97]).1.span) := by decide +kernel
theorem c5 : fetch s2.now [97] 100 98 99 = (some ⟨99, 1, [⟨true, 5⟩]⟩, 0) := by kernel_rfl
end Kt
theorem known7_any (w : World) (hg : Gv w) : Calls Tryz.prog 18 #[] w fun e w' => e = .returned (.bool true) ∧ Below w.heap.size w w' := by
 have HN := Lib.hid (Ws.new_any w)
 obtain ⟨fs, hfs⟩ : ∃ fs, fs = w.heap.size := ⟨_, rfl⟩
 rw [← hfs] at HN
 clear hfs
 have HCR : Hid (∀ w1, Hid (Kw w fs 0 ⟨65536, [], [], []⟩ w1) → Calls Tryz.prog 11 #[.pointer (some ⟨fs, 0, none⟩), .string ⟨#[97]⟩, .agg #[.int .i64 2, .int .i64 0, .slice (some ⟨w1.heap.size, 0, none⟩) 2 2]]
  ((w1.alloc (.cells #[.int .i64 1, .int .i64 60, .int .i64 60, .int .i64 5] 69)).alloc (.cells #[.int .i64 2, .int .i64 0, .slice (some ⟨w1.heap.size, 0, none⟩) 2 2] 24)) fun e w' => e = .returned (.int .i64 0) ∧ Hid (Kw w fs 1 Kt.s1 w')) := Lib.hid fun w1 h => by
  have hb : Below w1.heap.size w1 ((w1.alloc (.cells #[.int .i64 1, .int .i64 60, .int .i64 60, .int .i64 5] 69)).alloc (.cells #[.int .i64 2, .int .i64 0, .slice (some ⟨w1.heap.size, 0, none⟩) 2 2] 24)) := ((Below.refl _ _).alloc (Nat.le_refl _) _).alloc (by simp) _
  have hr : RowAt ((w1.alloc (.cells #[.int .i64 1, .int .i64 60, .int .i64 60, .int .i64 5] 69)).alloc (.cells #[.int .i64 2, .int .i64 0, .slice (some ⟨w1.heap.size, 0, none⟩) 2 2] 24)) w1.heap.size 69 #[.int .i64 1, .int .i64 60, .int .i64 60, .int .i64 5] := (RowAt.new w1 _ _).below ((Below.refl _ _).alloc (Nat.le_refl _) _) (by simp)
  have hrow : Row ((w1.alloc (.cells #[.int .i64 1, .int .i64 60, .int .i64 60, .int .i64 5] 69)).alloc (.cells #[.int .i64 2, .int .i64 0, .slice (some ⟨w1.heap.size, 0, none⟩) 2 2] 24)) (some ⟨w1.heap.size, 0, none⟩) Kt.hd.l 2 := by
   refine ⟨Nat.le_refl _, fun _ => ⟨_, _, rfl, ⟨hr.lt, ?_, ?_⟩⟩⟩
   ·intro i hi
    match i, hi with
    | 0, _ => exact hr.cell 0
    | 1, _ => exact hr.cell 2
   ·intro i hi
    match i, hi with
    | 0, _ => exact hr.cell 1
    | 1, _ => exact hr.cell 3
  have := h.out.create hb (by decide) [97] Kt.hd (some ⟨w1.heap.size, 0, none⟩) 2 hrow
  rw [show (⟨65536, [], [], []⟩ : Vf.Sv) = Kt.s0 from rfl, Kt.c1] at this
  exact this
 have HUP : Hid (∀ w1, Hid (Kw w fs 1 Kt.s1 w1) → Calls Tryz.prog 23 #[.pointer (some ⟨fs, 0, none⟩), .string ⟨#[97]⟩, .int .i64 100, .slice (some ⟨w1.heap.size, 0, none⟩) 1 1]
  (w1.alloc (.cells #[.int .i64 99, .int .i64 5] 54)) fun e w' => e = .returned (.tuple #[.int .i64 1, .int .i64 0]) ∧ Hid (Kw w fs 28 Kt.s2 w')) := Lib.hid fun w1 h => by
  have hb : Below w1.heap.size w1 (w1.alloc (.cells #[.int .i64 99, .int .i64 5] 54)) := (Below.refl _ _).alloc (Nat.le_refl _) _
  have hr : RowAt (w1.alloc (.cells #[.int .i64 99, .int .i64 5] 54)) w1.heap.size 54 #[.int .i64 99, .int .i64 5] := RowAt.new w1 _ _
  have hrow : Row (w1.alloc (.cells #[.int .i64 99, .int .i64 5] 54)) (some ⟨w1.heap.size, 0, none⟩) [(99, 5)] 1 := by
   refine ⟨Nat.le_refl _, fun _ => ⟨_, _, rfl, ⟨hr.lt, ?_, ?_⟩⟩⟩
   ·intro i hi
    match i, hi with
    | 0, _ => exact hr.cell 0
   ·intro i hi
    match i, hi with
    | 0, _ => exact hr.cell 1
  have := h.out.update hg hb [97] 100 [(99, 5)] (some ⟨w1.heap.size, 0, none⟩) 1 hrow (fun a e => by injection e with e; subst e; exact .inr ⟨Nat.le_refl _, by simp⟩) (by decide)
  rw [Kt.c2] at this
  exact this
 have HFE : Hid (∀ w1, Hid (Kw w fs 28 Kt.s2 w1) → Calls Tryz.prog 36 #[.pointer (some ⟨fs, 0, none⟩), .string ⟨#[97]⟩, .int .i64 100, .int .i64 98, .int .i64 99] w1 fun e w' => ∃ b off cap, e = .returned (.tuple #[.agg #[.string ⟨#[97]⟩, .int .i64 99, .int .i64 1, .slice (some ⟨b, off, none⟩) 1 cap, .int .i64 0], .int .i64 0]) ∧ Hid (∀ W, Below w'.heap.size w' W → W.cell? ⟨b, off, none⟩ = some (.bool true) ∧ W.cell? ⟨b, off + 1, none⟩ = some (.int .i64 5)) ∧ Hid (Below w.heap.size w w')) := Lib.hid fun w1 h => by
  have := h.out.fetch_in [97] (by decide) 100 98 99 Kt.c3 (by decide) (by decide) Kt.c4
  rw [Kt.c5] at this
  refine this.mono ?_
  rintro e w' ⟨v, rfl, -, h2, h3⟩
  obtain ⟨x, rfl, ho⟩ := h2 _ rfl
  obtain ⟨b, off, cap, rfl, hv⟩ := OwnV.vals ho (by decide)
  refine ⟨b, off, cap, rfl, Lib.hid fun W hb => ?_, Lib.hid (h.out.1.trans (h3.mono h.out.1.size))⟩
  have hv2 := hv.below hb
  exact ⟨by simpa using hv2.ok 0 (by decide), by simpa using hv2.n 0 (by decide)⟩
 go_enter Tryz.func18, Tryz.ntmps18
 go_wp2_with (first
  | (go_at_call 9; (with_reducible refine (HN.out).mono ?_); rintro e w1 ⟨rfl, h1⟩)
  | (go_at_call 11; (with_reducible refine (HCR.out w1 h1).mono ?_); rintro e w2 ⟨rfl, h2⟩)
  | (go_at_call 23; (with_reducible refine (HUP.out w2 h2).mono ?_); rintro e w3 ⟨rfl, h3⟩)
  | (go_at_call 36; (with_reducible refine (HFE.out w3 h3).mono ?_); rintro e w4 ⟨b, off, cap, rfl, h4, hb4⟩; obtain ⟨y0, y1⟩ := h4.out (w4.alloc (.cells #[.string ⟨#[97]⟩, .int .i64 99, .int .i64 1, .slice (some ⟨b, off, none⟩) 1 cap, .int .i64 0] 88)) ((Below.refl _ _).alloc (Nat.le_refl _) _); have HB4 := Lib.hid hb4; have hs4 := hb4.size; clear hb4))
 go_ret
 exact ⟨rfl, HB4.out.alloc hs4 _⟩
end
section
open Wh (At)
namespace Wh
theorem byt_right (X Y : List UInt8) (i : Nat) (n : Nat) (hn : X.length = n) : byt (X ++ Y) (n + i) = byt Y i := by
 unfold byt
 rw [List.getD_eq_getElem?_getD, List.getD_eq_getElem?_getD, List.getElem?_append_right (by omega), hn, Nat.add_sub_cancel_left]
theorem nm_right (X Y : List UInt8) (i n : Nat) (hn : X.length = n) : nm (X ++ Y) (n + i) = nm Y i := by
 unfold nm
 rw [byt_right X Y i n hn, show n + i + 1 = n + (i + 1) by omega, byt_right X Y (i + 1) n hn, show n + i + 2 = n + (i + 2) by omega, byt_right X Y (i + 2) n hn, show n + i + 3 = n + (i + 3) by omega, byt_right X Y (i + 3) n hn]
theorem nm_four (n : Int) (Y : List UInt8) (h1 : 0 ≤ n) (h2 : n ≤ 4294967295) : nm (four n ++ Y) 0 = n := by
 unfold nm
 have e0 : (byt (four n ++ Y) 0 : Int) = (n / 16777216) % 256 := u8of _
 have e1 : (byt (four n ++ Y) (0 + 1) : Int) = (n / 65536) % 256 := u8of _
 have e2 : (byt (four n ++ Y) (0 + 2) : Int) = (n / 256) % 256 := u8of _
 have e3 : (byt (four n ++ Y) (0 + 3) : Int) = n % 256 := u8of _
 rw [e0, e1, e2, e3]
 omega
theorem nm_fours : ∀ (ns : List Int) (M : List UInt8) (i : Nat) (n : Int), ns[i]? = some n → (∀ m ∈ ns, 0 ≤ m ∧ m ≤ 4294967295) → nm (fours ns ++ M) (4 * i) = n
 | [], _, _, _, h, _ => by simp at h
 | m :: ns, M, 0, n, h, hb => by
   have e : m = n := by simpa using h
   subst e
   have := hb m (by simp)
   have e2 : fours (m :: ns) ++ M = four m ++ (fours ns ++ M) := by unfold fours; simp
   rw [e2]
   exact nm_four m _ this.1 this.2
 | m :: ns, M, i + 1, n, h, hb => by
   have e2 : fours (m :: ns) ++ M = four m ++ (fours ns ++ M) := by unfold fours; simp
   rw [e2, show 4 * (i + 1) = 4 + 4 * i by omega, nm_right (four m) _ (4 * i) 4 rfl]
   exact nm_fours ns M i n (by simpa using h) fun x hx => hb x (by simp [hx])
theorem ints_head (ag xf : Int) (l : List (Int × Int)) (k i : Nat) (hi : i < 4) : (ints ag xf l k)[i]? = [ag, lsp l, xf, (l.length : Int)][i]? := by
 induction k with
 | zero => rfl
 | succ k ih =>
   unfold ints
   rw [List.getElem?_append_left (by rw [ints_len]; omega)]
   exact ih
theorem ints_tail (ag xf : Int) (l : List (Int × Int)) (k i j : Nat) (hi : i < k) (hj : j < 3) : (ints ag xf l k)[4 + 3 * i + j]? = [ends l i, (At l i).1, (At l i).2][j]? := by
 induction k with
 | zero => omega
 | succ k ih =>
   unfold ints
   by_cases e : i = k
   ·subst e
    rw [List.getElem?_append_right (by rw [ints_len]; omega), ints_len, show 4 + 3 * i + j - (4 + 3 * i) = j by omega]
   ·rw [List.getElem?_append_left (by rw [ints_len]; omega)]
    exact ih (by omega)
theorem ints_ok {ag xf : Int} {l : List (Int × Int)} (hv : val ag xf l = true) : ∀ n ∈ ints ag xf l l.length, 0 ≤ n ∧ n ≤ 4294967295 := by
 obtain ⟨⟨g1, g2⟩, x1, x2, ha⟩ := val_t hv
 obtain ⟨a1, a2, a3, a4, a5⟩ := av_t ha
 have hl := lsp_bd a1 a3
 have key : ∀ k, k ≤ l.length → ∀ n ∈ ints ag xf l k, 0 ≤ n ∧ n ≤ 4294967295 := by
  intro k
  induction k with
  | zero =>
    intro _ n hn
    simp [ints] at hn
    rcases hn with rfl | rfl | rfl | rfl <;> omega
  | succ k ih =>
    intro hk n hn
    unfold ints at hn
    rw [List.mem_append] at hn
    rcases hn with hn | hn
    ·exact ih (by omega) n hn
    ·have h1 := alls_num (k := k) (by omega) a3
     have h2 := ends_bd a2 (alls_cnt a3) k (by omega)
     simp at hn
     rcases hn with rfl | rfl | rfl <;> omega
 exact key l.length (Nat.le_refl _)
theorem At_eq (l : List (Int × Int)) (i : Nat) (h : i < l.length) : l[i]? = some (At l i) := by
 unfold At
 rw [List.getD_eq_getElem?_getD, List.getElem?_eq_getElem h]
 rfl
theorem back {ag xf : Int} {l : List (Int × Int)} (hv : val ag xf l = true) (M : List UInt8) : dok (enc ag xf l ++ M) = true ∧ dag (enc ag xf l ++ M) = ag ∧ dxf (enc ag xf l ++ M) = xf ∧ dl (enc ag xf l ++ M) = l := by
 obtain ⟨⟨g1, g2⟩, x1, x2, ha⟩ := val_t hv
 obtain ⟨a1, a2, a3, a4, a5⟩ := av_t ha
 have he : enc ag xf l = fours (ints ag xf l l.length) := by unfold enc; rw [if_pos hv]
 have hlen : (enc ag xf l).length = 16 + 12 * l.length := by rw [he, fours_len, ints_len]; omega
 have hb := ints_ok hv
 have n0 : nm (enc ag xf l ++ M) 0 = ag := by rw [he]; exact nm_fours _ M 0 ag (ints_head ag xf l _ 0 (by omega)) hb
 have n8 : nm (enc ag xf l ++ M) 8 = xf := by rw [he]; exact nm_fours _ M 2 xf (ints_head ag xf l _ 2 (by omega)) hb
 have n12 : nm (enc ag xf l ++ M) 12 = (l.length : Int) := by rw [he]; exact nm_fours _ M 3 _ (ints_head ag xf l _ 3 (by omega)) hb
 have hc : cand (enc ag xf l ++ M) = l := by
  unfold cand
  rw [n12, Int.toNat_natCast]
  apply List.ext_getElem?
  intro i
  by_cases hi : i < l.length
  ·rw [At_eq (archs _ _) i (by rw [archs_len]; exact hi), At_eq l i hi, archs_at _ _ i hi]
   have s1 : nm (enc ag xf l ++ M) (16 + 12 * i + 4) = (At l i).1 := by
    rw [he, show 16 + 12 * i + 4 = 4 * (4 + 3 * i + 1) by omega]
    exact nm_fours _ M _ _ (ints_tail ag xf l _ i 1 hi (by omega)) hb
   have s2 : nm (enc ag xf l ++ M) (16 + 12 * i + 8) = (At l i).2 := by
    rw [he, show 16 + 12 * i + 8 = 4 * (4 + 3 * i + 2) by omega]
    exact nm_fours _ M _ _ (ints_tail ag xf l _ i 2 hi (by omega)) hb
   rw [s1, s2]
  ·rw [List.getElem?_eq_none (by rw [archs_len]; omega), List.getElem?_eq_none (by omega)]
 have hr : rok (enc ag xf l ++ M) = true := by
  unfold rok
  simp only [Bool.and_eq_true, decide_eq_true_eq]
  rw [n12, List.length_append, hlen]
  exact ⟨⟨by omega, by omega⟩, by omega⟩
 have hel : encL (enc ag xf l ++ M) = enc ag xf l := by unfold encL; rw [n0, n8, hc]
 have hd : dok (enc ag xf l ++ M) = true := by
  rw [dok_p hr (by rw [n0, n8, hc]; exact hv), hel]
  exact decide_eq_true ⟨by rw [List.length_append]; omega, List.take_left⟩
 obtain ⟨e1, e2, e3, _⟩ := dok_t hd
 exact ⟨hd, e1.trans n0, e2.trans n8, e3.trans hc⟩
end Wh
end
section
open Go.RowKit
open Fx (Vl)
open Vf (Has upd)
namespace Wp
structure Stands (l : List Vf.Fl) (n : List UInt8) (h : Hd) (B : List UInt8) : Prop where
 fits : Fits l n h B
 head : ∃ M, B = Wh.enc h.ag h.xf h.l ++ M
end Wp
end
section
open Go.RowKit Go.Sort
open Fx (Vl)
open Me
open Wp
theorem small_any (ag xf : Int) (l : List (Int × Int)) (A : Option Addr) (cap : Nat) (w : World) (h : Row w A l cap) :
 Calls Tryz.prog 7 #[.agg #[.int .i64 ag, .int .i64 xf, .slice A l.length cap]] w fun e w' => e = .returned (.bool (Wh.val ag xf l && decide (Wh.size ag xf l ≤ 3000))) ∧ Below w.heap.size w w' := by
 have HM : Hid (∀ W, Below w.heap.size w W → Calls Tryz.prog 6 #[.agg #[.int .i64 ag, .int .i64 xf, .slice A l.length cap]] W fun e w' => e = .returned (.bool (Wh.val ag xf l)) ∧ Below W.heap.size W w') := Lib.hid fun W hb => may_any ag xf l A cap W (h.below hb)
 have HS : Hid (∀ W, Below w.heap.size w W → Calls Tryz.prog 30 #[.agg #[.int .i64 ag, .int .i64 xf, .slice A l.length cap]] W fun e w' => e = .returned (.int .i64 (Wh.size ag xf l)) ∧ Below W.heap.size W w') := Lib.hid fun W hb => rsize_any ag xf l A cap W (h.below hb)
 have hX : Below w.heap.size w (w.alloc (.cells #[.int .i64 ag, .int .i64 xf, .slice A l.length cap] 24)) := (Below.refl _ _).alloc (Nat.le_refl _) _
 have hrx : RowAt (w.alloc (.cells #[.int .i64 ag, .int .i64 xf, .slice A l.length cap] 24)) w.heap.size 24 #[.int .i64 ag, .int .i64 xf, .slice A l.length cap] := RowAt.new w _ _
 have HRX := Lib.hid hrx
 generalize Wh.size ag xf l = sz at *
 generalize Wh.val ag xf l = b at *
 clear h hrx
 generalize l.length = n at *
 cases b
 ·clear HS
  go_enter Tryz.func7, Tryz.ntmps7
  go_wp2_with (go_at_call 6; (with_reducible refine (HM.out _ hX).mono ?_); rintro e w1 ⟨rfl, hb1⟩; have HB1 := Lib.hid (hX.trans (hb1.mono hX.size)); clear hb1)
  go_ret
  exact ⟨by simp, HB1.out⟩
 ·go_enter Tryz.func7, Tryz.ntmps7
  go_wp2_with first
   | (go_at_call 6; (with_reducible refine (HM.out _ hX).mono ?_); rintro e w1 ⟨rfl, hb1⟩; have HB1 := Lib.hid (hX.trans (hb1.mono hX.size)); obtain ⟨y0, y1, y2⟩ : w1.cell? ⟨w.heap.size, 0, none⟩ = some (.int .i64 ag) ∧ w1.cell? ⟨w.heap.size, 1, none⟩ = some (.int .i64 xf) ∧ w1.cell? ⟨w.heap.size, 2, none⟩ = some (.slice A n cap) := (by have h1 := HRX.out.below hb1 HRX.out.lt; exact ⟨h1.cell 0, h1.cell 1, h1.cell 2⟩); clear hb1)
   | (go_at_call 30; (with_reducible refine (HS.out _ HB1.out).mono ?_); rintro e w2 ⟨rfl, hb2⟩; have HB2 := Lib.hid (HB1.out.trans (hb2.mono HB1.out.size)); clear hb2)
  go_ret
  exact ⟨by simp, HB2.out⟩
end
section
open Go.RowKit Go.Sort
open Fx (Vl)
open Me
open Wp
theorem fetch_late7 {w : World} {V : Nat → Prop} {c fs : Nat} {S : Vf.Sv} (ro : PO w V fs c S) (n : List UInt8) (now from_ until_ : Int) (h0 : (info S.now n).2 = 0) (hn : now < 1 ∨ 4294967295 < now) :
 Calls Tryz.prog 36 #[.pointer (some ⟨fs, 0, none⟩), .string ⟨n.toArray⟩, .int .i64 now, .int .i64 from_, .int .i64 until_] w (Fetched w n (fetch S.now n now from_ until_)) := by
 have HIN : Hid (∀ W, Below w.heap.size w W → Calls Tryz.prog 44 #[.pointer (some ⟨fs, 0, none⟩), .string ⟨n.toArray⟩] W (Opened W fs n (info S.now n))) := Lib.hid fun W hb => open_any (ro.below hb) n
 have HNW : Hid (∀ W, Calls Tryz.prog 58 #[.int .i64 now] W fun e w' => e = .returned (.bool false) ∧ W = w') := Lib.hid fun W => by
  have h := isnow_any now W
  rw [decide_eq_false (by omega)] at h
  exact h
 have HC := serCell w
 have HQ := Lib.hid (fetch_now (a := from_) (b := until_) h0 hn)
 have HZ := Lib.hid h0
 clear ro h0 hn
 generalize fetch S.now n now from_ until_ = Q at *
 generalize info S.now n = R at *
 obtain ⟨⟨ag, xf, hl⟩, er⟩ := R
 obtain rfl : er = 0 := HZ.out
 clear HZ
 obtain ⟨nb, hnb⟩ : ∃ nb : ByteArray, nb = ⟨n.toArray⟩ := ⟨_, rfl⟩
 have HNB := Lib.hid hnb
 rw [← hnb] at HIN ⊢
 clear hnb
 go_enter Tryz.func36, Tryz.ntmps36
 go_wp2_with first
  | (go_at_call 44; (with_reducible refine (HIN.out _ ((Below.refl _ _).alloc (Nat.le_refl _) _)).mono ?_); rintro e w1 ⟨A1, c1, p1, s1, rfl, hps, hrow, hfr, hb1⟩; obtain ⟨rfl, e2⟩ := hps rfl; have e3 : nb = s1 := HNB.out.trans e2.symm; clear e2; subst e3; have hbb : Below (w.heap.size + 1) (w.alloc (.cells #[.string ⟨#[]⟩, .int .i64 0, .int .i64 0, .slice none 0 0, .int .i64 0] 88)) w1 := hb1.mono (by simp); obtain ⟨⟨r0, r1, r2, r3, r4⟩, ⟨f0, f1, f2, f3, f4⟩, hs4⟩ := HC.out _ (hbb.alloc (by have := hbb.size; simpa using this) (.cells #[.int .i64 ag, .int .i64 xf, .slice A1 hl.length c1, .pointer (some ⟨fs, 0, none⟩), .string nb] 100)); have HB1 := Lib.hid hbb; have HROW := Lib.hid hrow; have hs1 := ser_below hbb; clear hb1 hrow hfr hps hbb)
  | (go_at_call 58; ((with_reducible refine (HNW.out _).mono ?_); rintro e w' ⟨rfl, rfl⟩))
 refine bodyPost_ret (v := .tuple #[.agg #[.string ⟨#[]⟩, .int .i64 0, .int .i64 0, .slice none 0 0, .int .i64 0], .int .i64 1]) (by simp [results, Tryz.results36, go_sem, *]) rfl (Fetched.no HQ.out ?_)
 exact below_set5 ((lowBox' HB1.out).alloc (by omega) _) (Nat.le_refl _)
theorem fetch_out7 {w : World} {V : Nat → Prop} {c fs : Nat} {S : Vf.Sv} (ro : PO w V fs c S) (n : List UInt8) (now from_ until_ : Int) (h0 : (info S.now n).2 = 0) (hn1 : 1 ≤ now) (hn2 : now ≤ 4294967295) (ht : until_ < from_ ∨ now < from_ ∨ until_ < 0 ∨ until_ < now - (info S.now n).1.span) :
 Calls Tryz.prog 36 #[.pointer (some ⟨fs, 0, none⟩), .string ⟨n.toArray⟩, .int .i64 now, .int .i64 from_, .int .i64 until_] w (Fetched w n (fetch S.now n now from_ until_)) := by
 have HIN : Hid (∀ W, Below w.heap.size w W → Calls Tryz.prog 44 #[.pointer (some ⟨fs, 0, none⟩), .string ⟨n.toArray⟩] W (Opened W fs n (info S.now n))) := Lib.hid fun W hb => open_any (ro.below hb) n
 have HNW : Hid (∀ W, Calls Tryz.prog 58 #[.int .i64 now] W fun e w' => e = .returned (.bool true) ∧ W = w') := Lib.hid fun W => by
  have h := isnow_any now W
  rw [decide_eq_true ⟨hn1, hn2⟩] at h
  exact h
 have HC := serCell w
 have HQ := Lib.hid (fetch_time h0 hn1 hn2 ht)
 obtain ⟨B0, hF⟩ := info_file h0
 have hsb := Hd.span_bd hF.val
 have HZ := Lib.hid h0
 have HSP : Hid (∀ A c W, Row W A (info S.now n).1.l c → Calls Tryz.prog 76 #[.agg #[.int .i64 (info S.now n).1.ag, .int .i64 (info S.now n).1.xf, .slice A (info S.now n).1.l.length c]] W fun e w' => e = .returned (.int .i64 (info S.now n).1.span) ∧ Below W.heap.size W w') := Lib.hid fun A c W h => spn_any _ _ _ A c W h
 clear ro h0 hF
 generalize fetch S.now n now from_ until_ = Q at *
 generalize info S.now n = R at *
 obtain ⟨⟨ag, xf, hl⟩, er⟩ := R
 obtain rfl : er = 0 := HZ.out
 clear HZ
 try dsimp only at HSP
 generalize (Hd.span (⟨ag, xf, hl⟩ : Hd)) = sp at *
 obtain ⟨lo, hlo⟩ : ∃ lo, now - sp = lo := ⟨_, rfl⟩
 have hwl : IntKind.i64.wrap lo = lo := IntWalk.i64_in _ (by omega)
 try dsimp only at ht
 rw [hlo] at ht
 obtain ⟨nb, hnb⟩ : ∃ nb : ByteArray, nb = ⟨n.toArray⟩ := ⟨_, rfl⟩
 have HNB := Lib.hid hnb
 rw [← hnb] at HIN ⊢
 clear hnb hsb
 by_cases t1 : until_ < from_
 ·have HT := ht
  clear ht HT
  go_enter Tryz.func36, Tryz.ntmps36
  go_wp2_with first
   | (go_at_call 44; (with_reducible refine (HIN.out _ ((Below.refl _ _).alloc (Nat.le_refl _) _)).mono ?_); rintro e w1 ⟨A1, c1, p1, s1, rfl, hps, hrow, hfr, hb1⟩; obtain ⟨rfl, e2⟩ := hps rfl; have e3 : nb = s1 := HNB.out.trans e2.symm; clear e2; subst e3; have hbb : Below (w.heap.size + 1) (w.alloc (.cells #[.string ⟨#[]⟩, .int .i64 0, .int .i64 0, .slice none 0 0, .int .i64 0] 88)) w1 := hb1.mono (by simp); obtain ⟨⟨r0, r1, r2, r3, r4⟩, ⟨f0, f1, f2, f3, f4⟩, hs4⟩ := HC.out _ (hbb.alloc (by have := hbb.size; simpa using this) (.cells #[.int .i64 ag, .int .i64 xf, .slice A1 hl.length c1, .pointer (some ⟨fs, 0, none⟩), .string nb] 100)); have HB1 := Lib.hid hbb; have HROW := Lib.hid hrow; have hs1 := ser_below hbb; clear hb1 hrow hfr hps hbb)
   | (go_at_call 58; ((with_reducible refine (HNW.out _).mono ?_); rintro e w' ⟨rfl, rfl⟩))
   | (go_at_call 76; (with_reducible refine (HSP.out A1 c1 _ (HROW.out.below ((Below.refl _ _).alloc (Nat.le_refl _) _))).mono ?_); rintro e w2 ⟨rfl, hb2⟩; have hbb : Below (w.heap.size + 1) (w.alloc (.cells #[.string ⟨#[]⟩, .int .i64 0, .int .i64 0, .slice none 0 0, .int .i64 0] 88)) w2 := (HB1.out.alloc hs1 _).trans (hb2.mono (by simp; omega)); clear r0 r1 r2 r3 r4 f0 f1 f2 f3 f4 hs4; obtain ⟨⟨r0, r1, r2, r3, r4⟩, ⟨f0, f1, f2, f3, f4⟩, hs4⟩ := HC.out _ hbb; have HB2 := Lib.hid hbb; clear hbb hb2)
  refine bodyPost_ret (v := .tuple #[.agg #[.string ⟨#[]⟩, .int .i64 0, .int .i64 0, .slice none 0 0, .int .i64 0], .int .i64 7]) (by simp [results, Tryz.results36, go_sem, *]) rfl (Fetched.no HQ.out ?_)
  exact below_set5 (lowBox' HB2.out) (Nat.le_refl _)
 by_cases t2 : now < from_
 ·have HT := ht
  clear ht HT
  go_enter Tryz.func36, Tryz.ntmps36
  go_wp2_with first
   | (go_at_call 44; (with_reducible refine (HIN.out _ ((Below.refl _ _).alloc (Nat.le_refl _) _)).mono ?_); rintro e w1 ⟨A1, c1, p1, s1, rfl, hps, hrow, hfr, hb1⟩; obtain ⟨rfl, e2⟩ := hps rfl; have e3 : nb = s1 := HNB.out.trans e2.symm; clear e2; subst e3; have hbb : Below (w.heap.size + 1) (w.alloc (.cells #[.string ⟨#[]⟩, .int .i64 0, .int .i64 0, .slice none 0 0, .int .i64 0] 88)) w1 := hb1.mono (by simp); obtain ⟨⟨r0, r1, r2, r3, r4⟩, ⟨f0, f1, f2, f3, f4⟩, hs4⟩ := HC.out _ (hbb.alloc (by have := hbb.size; simpa using this) (.cells #[.int .i64 ag, .int .i64 xf, .slice A1 hl.length c1, .pointer (some ⟨fs, 0, none⟩), .string nb] 100)); have HB1 := Lib.hid hbb; have HROW := Lib.hid hrow; have hs1 := ser_below hbb; clear hb1 hrow hfr hps hbb)
   | (go_at_call 58; ((with_reducible refine (HNW.out _).mono ?_); rintro e w' ⟨rfl, rfl⟩))
   | (go_at_call 76; (with_reducible refine (HSP.out A1 c1 _ (HROW.out.below ((Below.refl _ _).alloc (Nat.le_refl _) _))).mono ?_); rintro e w2 ⟨rfl, hb2⟩; have hbb : Below (w.heap.size + 1) (w.alloc (.cells #[.string ⟨#[]⟩, .int .i64 0, .int .i64 0, .slice none 0 0, .int .i64 0] 88)) w2 := (HB1.out.alloc hs1 _).trans (hb2.mono (by simp; omega)); clear r0 r1 r2 r3 r4 f0 f1 f2 f3 f4 hs4; obtain ⟨⟨r0, r1, r2, r3, r4⟩, ⟨f0, f1, f2, f3, f4⟩, hs4⟩ := HC.out _ hbb; have HB2 := Lib.hid hbb; clear hbb hb2)
  refine bodyPost_ret (v := .tuple #[.agg #[.string ⟨#[]⟩, .int .i64 0, .int .i64 0, .slice none 0 0, .int .i64 0], .int .i64 7]) (by simp [results, Tryz.results36, go_sem, *]) rfl (Fetched.no HQ.out ?_)
  exact below_set5 (lowBox' HB2.out) (Nat.le_refl _)
 by_cases t3 : until_ < 0
 ·have HT := ht
  clear ht HT
  go_enter Tryz.func36, Tryz.ntmps36
  go_wp2_with first
   | (go_at_call 44; (with_reducible refine (HIN.out _ ((Below.refl _ _).alloc (Nat.le_refl _) _)).mono ?_); rintro e w1 ⟨A1, c1, p1, s1, rfl, hps, hrow, hfr, hb1⟩; obtain ⟨rfl, e2⟩ := hps rfl; have e3 : nb = s1 := HNB.out.trans e2.symm; clear e2; subst e3; have hbb : Below (w.heap.size + 1) (w.alloc (.cells #[.string ⟨#[]⟩, .int .i64 0, .int .i64 0, .slice none 0 0, .int .i64 0] 88)) w1 := hb1.mono (by simp); obtain ⟨⟨r0, r1, r2, r3, r4⟩, ⟨f0, f1, f2, f3, f4⟩, hs4⟩ := HC.out _ (hbb.alloc (by have := hbb.size; simpa using this) (.cells #[.int .i64 ag, .int .i64 xf, .slice A1 hl.length c1, .pointer (some ⟨fs, 0, none⟩), .string nb] 100)); have HB1 := Lib.hid hbb; have HROW := Lib.hid hrow; have hs1 := ser_below hbb; clear hb1 hrow hfr hps hbb)
   | (go_at_call 58; ((with_reducible refine (HNW.out _).mono ?_); rintro e w' ⟨rfl, rfl⟩))
   | (go_at_call 76; (with_reducible refine (HSP.out A1 c1 _ (HROW.out.below ((Below.refl _ _).alloc (Nat.le_refl _) _))).mono ?_); rintro e w2 ⟨rfl, hb2⟩; have hbb : Below (w.heap.size + 1) (w.alloc (.cells #[.string ⟨#[]⟩, .int .i64 0, .int .i64 0, .slice none 0 0, .int .i64 0] 88)) w2 := (HB1.out.alloc hs1 _).trans (hb2.mono (by simp; omega)); clear r0 r1 r2 r3 r4 f0 f1 f2 f3 f4 hs4; obtain ⟨⟨r0, r1, r2, r3, r4⟩, ⟨f0, f1, f2, f3, f4⟩, hs4⟩ := HC.out _ hbb; have HB2 := Lib.hid hbb; clear hbb hb2)
  refine bodyPost_ret (v := .tuple #[.agg #[.string ⟨#[]⟩, .int .i64 0, .int .i64 0, .slice none 0 0, .int .i64 0], .int .i64 7]) (by simp [results, Tryz.results36, go_sem, *]) rfl (Fetched.no HQ.out ?_)
  exact below_set5 (lowBox' HB2.out) (Nat.le_refl _)
 ·have t4 : until_ < lo := by omega
  clear ht
  go_enter Tryz.func36, Tryz.ntmps36
  go_wp2_with first
   | (go_at_call 44; (with_reducible refine (HIN.out _ ((Below.refl _ _).alloc (Nat.le_refl _) _)).mono ?_); rintro e w1 ⟨A1, c1, p1, s1, rfl, hps, hrow, hfr, hb1⟩; obtain ⟨rfl, e2⟩ := hps rfl; have e3 : nb = s1 := HNB.out.trans e2.symm; clear e2; subst e3; have hbb : Below (w.heap.size + 1) (w.alloc (.cells #[.string ⟨#[]⟩, .int .i64 0, .int .i64 0, .slice none 0 0, .int .i64 0] 88)) w1 := hb1.mono (by simp); obtain ⟨⟨r0, r1, r2, r3, r4⟩, ⟨f0, f1, f2, f3, f4⟩, hs4⟩ := HC.out _ (hbb.alloc (by have := hbb.size; simpa using this) (.cells #[.int .i64 ag, .int .i64 xf, .slice A1 hl.length c1, .pointer (some ⟨fs, 0, none⟩), .string nb] 100)); have HB1 := Lib.hid hbb; have HROW := Lib.hid hrow; have hs1 := ser_below hbb; clear hb1 hrow hfr hps hbb)
   | (go_at_call 58; ((with_reducible refine (HNW.out _).mono ?_); rintro e w' ⟨rfl, rfl⟩))
   | (go_at_call 76; (with_reducible refine (HSP.out A1 c1 _ (HROW.out.below ((Below.refl _ _).alloc (Nat.le_refl _) _))).mono ?_); rintro e w2 ⟨rfl, hb2⟩; have hbb : Below (w.heap.size + 1) (w.alloc (.cells #[.string ⟨#[]⟩, .int .i64 0, .int .i64 0, .slice none 0 0, .int .i64 0] 88)) w2 := (HB1.out.alloc hs1 _).trans (hb2.mono (by simp; omega)); clear r0 r1 r2 r3 r4 f0 f1 f2 f3 f4 hs4; obtain ⟨⟨r0, r1, r2, r3, r4⟩, ⟨f0, f1, f2, f3, f4⟩, hs4⟩ := HC.out _ hbb; have HB2 := Lib.hid hbb; clear hbb hb2)
  refine bodyPost_ret (v := .tuple #[.agg #[.string ⟨#[]⟩, .int .i64 0, .int .i64 0, .slice none 0 0, .int .i64 0], .int .i64 7]) (by simp [results, Tryz.results36, go_sem, *]) rfl (Fetched.no HQ.out ?_)
  exact below_set5 (lowBox' HB2.out) (Nat.le_refl _)
theorem fetch_any7 {w : World} {V : Nat → Prop} {c fs : Nat} {S : Vf.Sv} (ro : PO w V fs c S) (n : List UInt8) (hnl : n.length ≤ 1048576) (now from_ until_ : Int) :
 Calls Tryz.prog 36 #[.pointer (some ⟨fs, 0, none⟩), .string ⟨n.toArray⟩, .int .i64 now, .int .i64 from_, .int .i64 until_] w (Fetched w n (fetch S.now n now from_ until_)) := by
 by_cases h0 : (info S.now n).2 = 0
 ·by_cases hn : now < 1 ∨ 4294967295 < now
  ·exact fetch_late7 ro n now from_ until_ h0 hn
  ·by_cases ht : until_ < from_ ∨ now < from_ ∨ until_ < 0 ∨ until_ < now - (info S.now n).1.span
   ·exact fetch_out7 ro n now from_ until_ h0 (by omega) (by omega) ht
   ·exact fetch_in7 ro n hnl now from_ until_ h0 (by omega) (by omega) ht
 ·rw [fetch_err h0]
  exact fetch_fail (g := fs) (R := info S.now n) h0 (Lib.hid fun W hb => open_any (ro.below hb) n)
end
section
open Go.RowKit Go.Sort
open Fx (Vl)
open Me
open Wp
open Ws
end
section
open Go.RowKit Go.Sort
open Fx (Vl)
open Me
open Wp
theorem Wp.PO.kpadd {w w' : World} {V V' O : Nat → Prop} {fs c : Nat} {S : Vf.Sv} (h : PO w V fs c S) (k : Kp O w w') (hO : ∀ i, O i → V i) (hV : ∀ i, V' i → V i ∨ (w.heap.size ≤ i ∧ i < w'.heap.size)) : PO w' V' fs c S := by
 obtain ⟨M, h1, h2, h3⟩ := h
 refine ⟨_, (PO.tight h1).kp k (fun i ho hi => (h3 i (hO i ho)).2 hi.1), h2, fun i hi => ?_⟩
 rcases hV i hi with hv | ⟨ha, hb⟩
 ·exact ⟨Nat.lt_of_lt_of_le (h3 i hv).1 k.size, fun hm => (h3 i hv).2 hm.1⟩
 ·exact ⟨hb, fun hm => by have := hm.2; omega⟩
open Ws
end
section
open Go.RowKit Go.Sort
open Fx (Vl)
open Me
open Wp
namespace Wp
theorem Fits.ring_eq {l : List Vf.Fl} {n : List UInt8} {h : Hd} {B : List UInt8} (f : Fits l n h B) {i : Nat} (hi : i < h.l.length) {C : Nat} (hC : h.cnt i = (C : Int)) : pts l n h i C = side B (h.offs (i : Int)).toNat C := by
 have hr := f.ring hi
 unfold pts side
 apply List.map_congr_left
 intro k hk
 have hk' := List.mem_range.1 hk
 rw [f.has.read_eq (by omega) (by omega) (by omega)]
 rw [show (h.offs (i : Int) + 12 * (k : Int)).toNat = (h.offs (i : Int)).toNat + 12 * k by omega]
 rfl
end Wp
theorem ring_any7 {w : World} {V : Nat → Prop} {c fs : Nat} {S : Vf.Sv} (ro : PO w V fs c S) (n : List UInt8) (a : Int) :
 Calls Tryz.prog 27 #[.pointer (some ⟨fs, 0, none⟩), .string ⟨n.toArray⟩, .int .i64 a] w (Ringed w (ring S.now n a)) := by
 have HIN := Lib.hid (open_any ro n)
 have HRO := Lib.hid ro
 have HE1 := Lib.hid (ring_err (fs := S.now) (n := n) (i := a))
 have HE2 := Lib.hid (ring_no (fs := S.now) (n := n) (i := a))
 have HE3 := Lib.hid (fun i => ring_yes (fs := S.now) (n := n) (i := i))
 have HVL := Lib.hid (info_file (l := S.now) (n := n))
 clear ro
 generalize info S.now n = R at *
 obtain ⟨⟨ag, xf, hl⟩, er⟩ := R
 by_cases he : er = 0
 ·subst he
  obtain ⟨B0, hB0⟩ := HVL.out rfl
  have hv := hB0.val
  have hlen := Hd.len hv
  by_cases ht1 : a < 0
  ·have HQ := Lib.hid (HE2.out rfl (.inl ht1))
   clear HE1 HE2 HE3 HVL
   go_enter Tryz.func27, Tryz.ntmps27
   go_wp2_with (go_at_call 44; (with_reducible refine (HIN.out).mono ?_); rintro e w1 ⟨A1, c1, p1, s1, rfl, hps, hrow, hfr, hb1⟩; have HB1 := Lib.hid hb1; clear hb1 hrow hfr hps)
   ((try simp only [Exit.inBlock, Exit.then]); refine bodyPost_ret (results_tmp2 rfl _ _ _) rfl ?_)
   exact ⟨.slice none 0 0, by rw [HQ.out]; rfl, by rw [HQ.out]; exact OwnP.nil _ _, HB1.out.alloc HB1.out.size _⟩
  by_cases ht2 : (hl.length : Int) ≤ a
  ·have HQ := Lib.hid (HE2.out rfl (.inr ht2))
   clear HE1 HE2 HE3 HVL
   go_enter Tryz.func27, Tryz.ntmps27
   go_wp2_with (go_at_call 44; (with_reducible refine (HIN.out).mono ?_); rintro e w1 ⟨A1, c1, p1, s1, rfl, hps, hrow, hfr, hb1⟩; have HB1 := Lib.hid hb1; clear hb1 hrow hfr hps)
   ((try simp only [Exit.inBlock, Exit.then]); refine bodyPost_ret (results_tmp2 rfl _ _ _) rfl ?_)
   exact ⟨.slice none 0 0, by rw [HQ.out]; rfl, by rw [HQ.out]; exact OwnP.nil _ _, HB1.out.alloc HB1.out.size _⟩
  obtain ⟨i, rfl⟩ : ∃ i : Nat, a = (i : Int) := ⟨a.toNat, by omega⟩
  have hi : i < hl.length := by omega
  have HQ := Lib.hid (HE3.out i rfl hi)
  clear HE1 HE2 HE3 HVL
  obtain ⟨H, hH⟩ : ∃ H, Hid (H = (⟨ag, xf, hl⟩ : Hd)) := ⟨_, Lib.hid rfl⟩
  rw [← hH.out] at HQ hB0 hv
  have hi2 : i < H.l.length := by rw [hH.out]; exact hi
  have hvH : H.val = true := hv
  have hFH : Fits S.now n H B0 := hB0
  clear hv hB0
  obtain ⟨⟨n1, n2⟩, n3, n4⟩ := Hd.nums hvH i hi2
  obtain ⟨C, hC⟩ : ∃ C : Nat, H.cnt i = (C : Int) := ⟨(H.cnt i).toNat, by omega⟩
  have HQ2 : Hid (ring S.now n (i : Int) = (round B0 (H.offs (i : Int)).toNat C 0 C, 0)) := Lib.hid (by rw [HQ.out, hC, Int.toNat_natCast, hFH.ring_eq hi2 hC, round_all])
  have HFV : Hid (∀ A c, fileV H A c fs n = .agg #[.int .i64 ag, .int .i64 xf, .slice A hl.length c, .pointer (some ⟨fs, 0, none⟩), .string ⟨n.toArray⟩]) := Lib.hid fun A c => by rw [hH.out]; rfl
  obtain ⟨o, ho⟩ : ∃ o, o = H.offs (i : Int) := ⟨_, rfl⟩
  obtain ⟨s, hs⟩ : ∃ s, s = H.step i := ⟨_, rfl⟩
  have HRV : Hid (∀ A c, ringV H i A c fs n = .agg #[.int .i64 s, .int .i64 (C : Int), .int .i64 ag, .int .i64 xf, .slice A hl.length c, .pointer (some ⟨fs, 0, none⟩), .string ⟨n.toArray⟩, .int .i64 o]) := Lib.hid fun A c => by rw [ho, hs, ← hC, hH.out]; rfl
  have HRG : Hid (∀ W A c, Row W A hl c → Calls Tryz.prog 65 #[.agg #[.int .i64 ag, .int .i64 xf, .slice A hl.length c, .pointer (some ⟨fs, 0, none⟩), .string ⟨n.toArray⟩], .int .i64 (i : Int)] W fun e w' => e = .returned (.agg #[.int .i64 s, .int .i64 (C : Int), .int .i64 ag, .int .i64 xf, .slice A hl.length c, .pointer (some ⟨fs, 0, none⟩), .string ⟨n.toArray⟩, .int .i64 o]) ∧ Below W.heap.size W w') := Lib.hid fun W A c hr => by
   have h := ring_any (fs := fs) (n := n) (h := H) (A := A) (cap := c) (by rw [hH.out]; exact hr) hvH i hi2
   rw [HFV.out, HRV.out] at h
   exact h
  have HPT : Hid (∀ W A c, Below w.heap.size w W → Calls Tryz.prog 66 #[.agg #[.int .i64 s, .int .i64 (C : Int), .int .i64 ag, .int .i64 xf, .slice A hl.length c, .pointer (some ⟨fs, 0, none⟩), .string ⟨n.toArray⟩, .int .i64 o], .int .i64 0, .int .i64 (C : Int)] W fun e w' => ∃ v, e = .returned v ∧ OwnP 54 W.heap.size w' v (round B0 (H.offs (i : Int)).toNat C 0 C) ∧ Below W.heap.size W w') := Lib.hid fun W A c hb => by
   have h := points_any (A := A) (cap := c) (HRO.out.below hb) hFH i hi2 0 C C hC (by omega) (Nat.le_refl _)
   rw [HRV.out] at h
   exact h
  have hil : (i : Int) < (hl.length : Int) := by omega
  have hi0 : (0 : Int) ≤ (i : Int) := by omega
  clear ho hs hC hFH hvH n1 n2 n3 n4 HQ
  go_enter Tryz.func27, Tryz.ntmps27
  go_wp2_with first
   | (go_at_call 44; (with_reducible refine (HIN.out).mono ?_); rintro e w1 ⟨A1, c1, p1, s1, rfl, hps, hrow, hfr, hb1⟩; obtain ⟨rfl, rfl⟩ := hps rfl; have HB1 := Lib.hid hb1; have HROW := Lib.hid hrow; have hs1 := hb1.size; clear hb1 hrow hfr)
   | (go_at_call 65; (with_reducible refine (HRG.out _ A1 c1 (HROW.out.below ((Below.refl _ _).alloc (Nat.le_refl _) _))).mono ?_); rintro e w3 ⟨rfl, hb3⟩; have HB3 : Hid (Below w.heap.size w w3) := Lib.hid ((HB1.out.alloc hs1 _).trans (hb3.mono (by simp; omega))); have hs3 := HB3.out.size; clear hb3)
   | (go_at_call 66; (with_reducible refine (HPT.out _ A1 c1 (HB3.out.alloc hs3 _)).mono ?_); rintro e w4 ⟨v4, rfl, ho4, hb4⟩; have hb4' : Below w.heap.size w w4 := (HB3.out.alloc hs3 _).trans (hb4.mono (by simp; omega)); have HB4 := Lib.hid hb4'; have HO4 : Hid (OwnP 54 w.heap.size w4 v4 (round B0 (H.offs (i : Int)).toNat C 0 C)) := Lib.hid (own_weak ho4 (by simp; omega)); clear hb4 hb4' ho4)
  ((try simp only [Exit.inBlock, Exit.then]); refine bodyPost_ret (results_tmp2 rfl _ _ _) rfl ?_)
  exact ⟨v4, by rw [HQ2.out]; rfl, by rw [HQ2.out]; exact HO4.out, HB4.out⟩
 ·have HQ := Lib.hid (HE1.out he)
  have heb : (er == 0) = false := by simpa using he
  clear HE1 HE2 HE3 HVL
  go_enter Tryz.func27, Tryz.ntmps27
  go_wp2_with (go_at_call 44; (with_reducible refine (HIN.out).mono ?_); rintro e w1 ⟨A1, c1, p1, s1, rfl, hps, hrow, hfr, hb1⟩; have HB1 := Lib.hid hb1; clear hb1 hrow hfr hps)
  ((try simp only [Exit.inBlock, Exit.then]); refine bodyPost_ret (results_tmp2 rfl _ _ _) rfl ?_)
  exact ⟨.slice none 0 0, by rw [HQ.out]; rfl, by rw [HQ.out]; exact OwnP.nil _ _, HB1.out.alloc HB1.out.size _⟩
end
section
open Go.RowKit Go.Sort
open Fx (Vl)
open Me
open Wp
end
section
open Go.RowKit Go.Sort
open Fx (Vl)
open Me
open Wp
theorem rfetch_bad {w : World} {V : Nat → Prop} {c fs : Nat} {S : Vf.Sv} (ro : RO w V fs c S) (hc : c ≤ 1000000) (n : List UInt8) (now from_ until_ : Int) (hbad : (info S.now n).2 ≠ 0 ∨ now < 1 ∨ 4294967295 < now) :
 Calls Tryz.prog 37 #[.pointer (some ⟨fs, 0, none⟩), .string ⟨n.toArray⟩, .int .i64 now, .int .i64 from_, .int .i64 until_] w (Fetched w n (fetch S.now n now from_ until_)) := by
 have HIN : Hid (∀ W, Below w.heap.size w W → Calls Tryz.prog 16 #[.pointer (some ⟨fs, 0, none⟩), .string ⟨n.toArray⟩] W (Informed W (info S.now n))) := Lib.hid fun W hb => rinfo_any (ro.below hb) (by omega) n
 have HRO := Lib.hid ro
 have HC := serCell w
 have HE1 := Lib.hid (fetch_err (fs := S.now) (n := n) (now := now) (a := from_) (b := until_))
 have HE2 := Lib.hid (fetch_now (fs := S.now) (n := n) (now := now) (a := from_) (b := until_))
 have HE3 := Lib.hid (fetch_time (fs := S.now) (n := n) (now := now) (a := from_) (b := until_))
 have HE4 := Lib.hid (fun i h h1 h2 ht f u hf hu hi p e hp he K hK => fetch_yes (fs := S.now) (n := n) (now := now) (a := from_) (b := until_) (i := i) (f := f) (u := u) h h1 h2 ht hf hu hi (p := p) (e := e) hp he (K := K) hK)
 have HVL := Lib.hid (info_val (fs := S.now) (n := n))
 clear ro
 have HBAD := Lib.hid hbad
 clear hbad
 generalize info S.now n = R at *
 generalize fetch S.now n now from_ until_ = Q at *
 obtain ⟨⟨ag, xf, hl⟩, er⟩ := R
 have hbad := HBAD.out
 clear HBAD
 by_cases he : er = 0
 case neg =>
  have HQ := Lib.hid (HE1.out he)
  have heb : (er == 0) = false := by simpa using he
  clear HE1 HE2 HE3 HE4 HVL hbad
  go_enter Tryz.func37, Tryz.ntmps37
  go_wp2_with (go_at_call 16; (with_reducible refine (HIN.out _ ((Below.refl _ _).alloc (Nat.le_refl _) _)).mono ?_); rintro e w1 ⟨A1, c1, rfl, hrow, hfr, hb1⟩; have hbb : Below (w.heap.size + 1) (w.alloc (.cells #[.string ⟨#[]⟩, .int .i64 0, .int .i64 0, .slice none 0 0, .int .i64 0] 88)) w1 := hb1.mono (by simp); obtain ⟨⟨q0, q1, q2, q3, q4⟩, ⟨g0, g1, g2, g3, g4⟩, hs1⟩ := HC.out w1 hbb; have HLB := Lib.hid (lowBox' hbb); clear hb1 hbb hrow hfr)
  refine bodyPost_ret (v := .tuple #[.agg #[.string ⟨#[]⟩, .int .i64 0, .int .i64 0, .slice none 0 0, .int .i64 0], .int .i64 er]) (by simp [results, Tryz.results37, go_sem, *]) rfl (Fetched.no HQ.out ((below_set5 HLB.out (Nat.le_refl _)).alloc (by simp [World.setCell]; omega) _))
 subst he
 have HQ := Lib.hid (HE2.out rfl (hbad.resolve_left (fun e => e rfl)))
 have ht := hbad.resolve_left (fun e => e rfl)
 clear HE1 HE2 HE3 HE4 HVL hbad
 by_cases ht1 : now < 1
 ·clear ht
  go_enter Tryz.func37, Tryz.ntmps37
  go_wp2_with (go_at_call 16; (with_reducible refine (HIN.out _ ((Below.refl _ _).alloc (Nat.le_refl _) _)).mono ?_); rintro e w1 ⟨A1, c1, rfl, hrow, hfr, hb1⟩; have hbb : Below (w.heap.size + 1) (w.alloc (.cells #[.string ⟨#[]⟩, .int .i64 0, .int .i64 0, .slice none 0 0, .int .i64 0] 88)) w1 := hb1.mono (by simp); obtain ⟨⟨q0, q1, q2, q3, q4⟩, ⟨g0, g1, g2, g3, g4⟩, hs1⟩ := HC.out w1 hbb; have HLB := Lib.hid (lowBox' hbb); clear hb1 hbb hrow hfr)
  refine bodyPost_ret (v := .tuple #[.agg #[.string ⟨#[]⟩, .int .i64 0, .int .i64 0, .slice none 0 0, .int .i64 0], .int .i64 1]) (by simp [results, Tryz.results37, go_sem, *]) rfl (Fetched.no HQ.out ((below_set5 HLB.out (Nat.le_refl _)).alloc (by simp [World.setCell]; omega) _))
 ·have ht2 : 4294967295 < now := by omega
  clear ht
  go_enter Tryz.func37, Tryz.ntmps37
  go_wp2_with (go_at_call 16; (with_reducible refine (HIN.out _ ((Below.refl _ _).alloc (Nat.le_refl _) _)).mono ?_); rintro e w1 ⟨A1, c1, rfl, hrow, hfr, hb1⟩; have hbb : Below (w.heap.size + 1) (w.alloc (.cells #[.string ⟨#[]⟩, .int .i64 0, .int .i64 0, .slice none 0 0, .int .i64 0] 88)) w1 := hb1.mono (by simp); obtain ⟨⟨q0, q1, q2, q3, q4⟩, ⟨g0, g1, g2, g3, g4⟩, hs1⟩ := HC.out w1 hbb; have HLB := Lib.hid (lowBox' hbb); clear hb1 hbb hrow hfr)
  refine bodyPost_ret (v := .tuple #[.agg #[.string ⟨#[]⟩, .int .i64 0, .int .i64 0, .slice none 0 0, .int .i64 0], .int .i64 1]) (by simp [results, Tryz.results37, go_sem, *]) rfl (Fetched.no HQ.out ((below_set5 HLB.out (Nat.le_refl _)).alloc (by simp [World.setCell]; omega) _))
end
section
open Go.RowKit Go.Sort
open Fx (Vl)
open Me
open Wp
theorem rfetch_out {w : World} {V : Nat → Prop} {c fs : Nat} {S : Vf.Sv} (ro : RO w V fs c S) (hc : c ≤ 1000000) (n : List UInt8) (now from_ until_ : Int) (h0 : (info S.now n).2 = 0) (hn1 : 1 ≤ now) (hn2 : now ≤ 4294967295) (ht : (until_ < from_ ∨ now < from_ ∨ until_ < 0 ∨ until_ < now - (info S.now n).1.span)) :
 Calls Tryz.prog 37 #[.pointer (some ⟨fs, 0, none⟩), .string ⟨n.toArray⟩, .int .i64 now, .int .i64 from_, .int .i64 until_] w (Fetched w n (fetch S.now n now from_ until_)) := by
 have HIN : Hid (∀ W, Below w.heap.size w W → Calls Tryz.prog 16 #[.pointer (some ⟨fs, 0, none⟩), .string ⟨n.toArray⟩] W (Informed W (info S.now n))) := Lib.hid fun W hb => rinfo_any (ro.below hb) (by omega) n
 have HRO := Lib.hid ro
 have HC := serCell w
 have HE1 := Lib.hid (fetch_err (fs := S.now) (n := n) (now := now) (a := from_) (b := until_))
 have HE2 := Lib.hid (fetch_now (fs := S.now) (n := n) (now := now) (a := from_) (b := until_))
 have HE3 := Lib.hid (fetch_time (fs := S.now) (n := n) (now := now) (a := from_) (b := until_))
 have HE4 := Lib.hid (fun i h h1 h2 ht f u hf hu hi p e hp he K hK => fetch_yes (fs := S.now) (n := n) (now := now) (a := from_) (b := until_) (i := i) (f := f) (u := u) h h1 h2 ht hf hu hi (p := p) (e := e) hp he (K := K) hK)
 have HVL := Lib.hid (info_val (fs := S.now) (n := n))
 clear ro
 have HZ := Lib.hid h0
 have HT0 := Lib.hid ht
 clear h0 ht
 generalize info S.now n = R at *
 generalize fetch S.now n now from_ until_ = Q at *
 obtain ⟨⟨ag, xf, hl⟩, er⟩ := R
 have h0 := HZ.out
 have ht := HT0.out
 clear HZ HT0
 dsimp only at h0 ht
 obtain rfl : er = 0 := h0
 have hv := HVL.out rfl
 have hlen := Hd.len hv
 obtain ⟨H, hH⟩ : ∃ H, Hid (H = (⟨ag, xf, hl⟩ : Hd)) := ⟨_, Lib.hid rfl⟩
 have HE3' := Lib.hid (HE3.out rfl hn1 hn2)
 have HE4' := Lib.hid (fun i => HE4.out i rfl hn1 hn2)
 rw [← hH.out] at HE3' HE4' hv ht
 clear HE1 HE2 HE3 HE4 HVL
 have HSP : Hid (∀ A c W, Row W A hl c → Calls Tryz.prog 74 #[.agg #[.int .i64 ag, .int .i64 xf, .slice A hl.length c]] W fun e w' => e = .returned (.int .i64 H.span) ∧ Below W.heap.size W w') := Lib.hid fun A c W h => by
  have := rspn_any ag xf hl A c W h
  rw [show Wh.spn ag xf hl = H.span by rw [hH.out]; rfl] at this
  exact this
 have hsb := Hd.span_bd hv
 have HCB := Lib.hid (fun ht => clip_bd (now := now) (a := from_) (b := until_) hv hn1 ht)
 have HCL : Hid (clip H now from_ = max (max 0 from_) (now - H.span)) := Lib.hid rfl
 have HLS := Lib.hid (Hd.span_eq hv)
 obtain ⟨sp, hsp⟩ : ∃ sp, Hid (sp = H.span) := ⟨_, Lib.hid rfl⟩
 rw [← hsp.out] at HSP hsb HE3' HE4' HCB HCL HLS ht
 obtain ⟨lo, hlo⟩ : ∃ lo, now - sp = lo := ⟨_, rfl⟩
 have hwl : IntKind.i64.wrap lo = lo := IntWalk.i64_in _ (by omega)
 rw [hlo] at ht
 have HQ := Lib.hid (HE3'.out (by rw [hlo]; exact ht))
 clear HE3' HE4' HCB HCL HLS hsb hlen hv
 by_cases t1 : until_ < from_
 ·clear ht
  go_enter Tryz.func37, Tryz.ntmps37
  go_wp2_with first
   | (go_at_call 16; (with_reducible refine (HIN.out _ ((Below.refl _ _).alloc (Nat.le_refl _) _)).mono ?_); rintro e w1 ⟨A1, c1, rfl, hrow, hfr, hb1⟩; have hbb : Below (w.heap.size + 1) (w.alloc (.cells #[.string ⟨#[]⟩, .int .i64 0, .int .i64 0, .slice none 0 0, .int .i64 0] 88)) w1 := hb1.mono (by simp); obtain ⟨⟨q0, q1, q2, q3, q4⟩, ⟨g0, g1, g2, g3, g4⟩, hs1⟩ := HC.out w1 hbb; have HLB := Lib.hid (lowBox' hbb); have HBB := Lib.hid hbb; have HROW := Lib.hid hrow; have HFR : Hid (∀ a, A1 = some a → w.heap.size < a.block) := Lib.hid (fun a e => Nat.lt_of_lt_of_le (by simp) (hfr a e)); clear hb1 hbb hrow hfr)
   | (go_at_call 74; (with_reducible refine (HSP.out _ _ _ (HROW.out.below ((Below.refl _ _).alloc (Nat.le_refl _) _))).mono ?_); rintro e w2 ⟨rfl, hb2⟩; have hbb : Below (w.heap.size + 1) (w.alloc (.cells #[.string ⟨#[]⟩, .int .i64 0, .int .i64 0, .slice none 0 0, .int .i64 0] 88)) w2 := (HBB.out.alloc (by omega) _).trans (hb2.mono (by simp; omega)); obtain ⟨⟨r0, r1, r2, r3, r4⟩, ⟨f0, f1, f2, f3, f4⟩, hs2⟩ := HC.out w2 hbb; have HLB2 := Lib.hid (lowBox' hbb); clear hb2 hbb)
  refine bodyPost_ret (v := .tuple #[.agg #[.string ⟨#[]⟩, .int .i64 0, .int .i64 0, .slice none 0 0, .int .i64 0], .int .i64 7]) (by simp [results, Tryz.results37, go_sem, *]) rfl (Fetched.no HQ.out (below_set5 HLB2.out (Nat.le_refl _)))
 by_cases t2 : now < from_
 ·clear ht
  go_enter Tryz.func37, Tryz.ntmps37
  go_wp2_with first
   | (go_at_call 16; (with_reducible refine (HIN.out _ ((Below.refl _ _).alloc (Nat.le_refl _) _)).mono ?_); rintro e w1 ⟨A1, c1, rfl, hrow, hfr, hb1⟩; have hbb : Below (w.heap.size + 1) (w.alloc (.cells #[.string ⟨#[]⟩, .int .i64 0, .int .i64 0, .slice none 0 0, .int .i64 0] 88)) w1 := hb1.mono (by simp); obtain ⟨⟨q0, q1, q2, q3, q4⟩, ⟨g0, g1, g2, g3, g4⟩, hs1⟩ := HC.out w1 hbb; have HLB := Lib.hid (lowBox' hbb); have HBB := Lib.hid hbb; have HROW := Lib.hid hrow; have HFR : Hid (∀ a, A1 = some a → w.heap.size < a.block) := Lib.hid (fun a e => Nat.lt_of_lt_of_le (by simp) (hfr a e)); clear hb1 hbb hrow hfr)
   | (go_at_call 74; (with_reducible refine (HSP.out _ _ _ (HROW.out.below ((Below.refl _ _).alloc (Nat.le_refl _) _))).mono ?_); rintro e w2 ⟨rfl, hb2⟩; have hbb : Below (w.heap.size + 1) (w.alloc (.cells #[.string ⟨#[]⟩, .int .i64 0, .int .i64 0, .slice none 0 0, .int .i64 0] 88)) w2 := (HBB.out.alloc (by omega) _).trans (hb2.mono (by simp; omega)); obtain ⟨⟨r0, r1, r2, r3, r4⟩, ⟨f0, f1, f2, f3, f4⟩, hs2⟩ := HC.out w2 hbb; have HLB2 := Lib.hid (lowBox' hbb); clear hb2 hbb)
  refine bodyPost_ret (v := .tuple #[.agg #[.string ⟨#[]⟩, .int .i64 0, .int .i64 0, .slice none 0 0, .int .i64 0], .int .i64 7]) (by simp [results, Tryz.results37, go_sem, *]) rfl (Fetched.no HQ.out (below_set5 HLB2.out (Nat.le_refl _)))
 by_cases t3 : until_ < 0
 ·clear ht
  go_enter Tryz.func37, Tryz.ntmps37
  go_wp2_with first
   | (go_at_call 16; (with_reducible refine (HIN.out _ ((Below.refl _ _).alloc (Nat.le_refl _) _)).mono ?_); rintro e w1 ⟨A1, c1, rfl, hrow, hfr, hb1⟩; have hbb : Below (w.heap.size + 1) (w.alloc (.cells #[.string ⟨#[]⟩, .int .i64 0, .int .i64 0, .slice none 0 0, .int .i64 0] 88)) w1 := hb1.mono (by simp); obtain ⟨⟨q0, q1, q2, q3, q4⟩, ⟨g0, g1, g2, g3, g4⟩, hs1⟩ := HC.out w1 hbb; have HLB := Lib.hid (lowBox' hbb); have HBB := Lib.hid hbb; have HROW := Lib.hid hrow; have HFR : Hid (∀ a, A1 = some a → w.heap.size < a.block) := Lib.hid (fun a e => Nat.lt_of_lt_of_le (by simp) (hfr a e)); clear hb1 hbb hrow hfr)
   | (go_at_call 74; (with_reducible refine (HSP.out _ _ _ (HROW.out.below ((Below.refl _ _).alloc (Nat.le_refl _) _))).mono ?_); rintro e w2 ⟨rfl, hb2⟩; have hbb : Below (w.heap.size + 1) (w.alloc (.cells #[.string ⟨#[]⟩, .int .i64 0, .int .i64 0, .slice none 0 0, .int .i64 0] 88)) w2 := (HBB.out.alloc (by omega) _).trans (hb2.mono (by simp; omega)); obtain ⟨⟨r0, r1, r2, r3, r4⟩, ⟨f0, f1, f2, f3, f4⟩, hs2⟩ := HC.out w2 hbb; have HLB2 := Lib.hid (lowBox' hbb); clear hb2 hbb)
  refine bodyPost_ret (v := .tuple #[.agg #[.string ⟨#[]⟩, .int .i64 0, .int .i64 0, .slice none 0 0, .int .i64 0], .int .i64 7]) (by simp [results, Tryz.results37, go_sem, *]) rfl (Fetched.no HQ.out (below_set5 HLB2.out (Nat.le_refl _)))
 ·have t4 : until_ < lo := by omega
  clear ht
  go_enter Tryz.func37, Tryz.ntmps37
  go_wp2_with first
   | (go_at_call 16; (with_reducible refine (HIN.out _ ((Below.refl _ _).alloc (Nat.le_refl _) _)).mono ?_); rintro e w1 ⟨A1, c1, rfl, hrow, hfr, hb1⟩; have hbb : Below (w.heap.size + 1) (w.alloc (.cells #[.string ⟨#[]⟩, .int .i64 0, .int .i64 0, .slice none 0 0, .int .i64 0] 88)) w1 := hb1.mono (by simp); obtain ⟨⟨q0, q1, q2, q3, q4⟩, ⟨g0, g1, g2, g3, g4⟩, hs1⟩ := HC.out w1 hbb; have HLB := Lib.hid (lowBox' hbb); have HBB := Lib.hid hbb; have HROW := Lib.hid hrow; have HFR : Hid (∀ a, A1 = some a → w.heap.size < a.block) := Lib.hid (fun a e => Nat.lt_of_lt_of_le (by simp) (hfr a e)); clear hb1 hbb hrow hfr)
   | (go_at_call 74; (with_reducible refine (HSP.out _ _ _ (HROW.out.below ((Below.refl _ _).alloc (Nat.le_refl _) _))).mono ?_); rintro e w2 ⟨rfl, hb2⟩; have hbb : Below (w.heap.size + 1) (w.alloc (.cells #[.string ⟨#[]⟩, .int .i64 0, .int .i64 0, .slice none 0 0, .int .i64 0] 88)) w2 := (HBB.out.alloc (by omega) _).trans (hb2.mono (by simp; omega)); obtain ⟨⟨r0, r1, r2, r3, r4⟩, ⟨f0, f1, f2, f3, f4⟩, hs2⟩ := HC.out w2 hbb; have HLB2 := Lib.hid (lowBox' hbb); clear hb2 hbb)
  refine bodyPost_ret (v := .tuple #[.agg #[.string ⟨#[]⟩, .int .i64 0, .int .i64 0, .slice none 0 0, .int .i64 0], .int .i64 7]) (by simp [results, Tryz.results37, go_sem, *]) rfl (Fetched.no HQ.out (below_set5 HLB2.out (Nat.le_refl _)))
end
section
open Go.RowKit Go.Sort
open Fx (Vl)
open Me
open Wp
def Wp.Ser (Y : World) (n : List UInt8) (p s : Int) (W : World) (x : Value) (m : List Vl) : Prop :=
 Below Y.heap.size Y W ∧ RowAt W Y.heap.size 88 #[.string ⟨n.toArray⟩, .int .i64 p, .int .i64 s, x, .int .i64 0] ∧ OwnV (Y.heap.size + 1) W x m
theorem Wp.Ser.start (Y : World) (n : List UInt8) (p s : Int) : Ser Y n p s (Y.alloc (.cells #[.string ⟨n.toArray⟩, .int .i64 p, .int .i64 s, .slice none 0 0, .int .i64 0] 88)) (.slice none 0 0) [] :=
 ⟨(Below.refl _ _).alloc (Nat.le_refl _) _, RowAt.new _ _ _, OwnV.nil _ _⟩
theorem Wp.Ser.below {Y W W' : World} {n : List UInt8} {p s : Int} {x : Value} {m : List Vl} (h : Ser Y n p s W x m) (hb : Below W.heap.size W W') : Ser Y n p s W' x m :=
 ⟨h.1.trans (hb.mono h.1.size), h.2.1.below hb h.2.1.lt, h.2.2.below hb⟩
theorem Wp.Ser.step {Y W w4 : World} {n : List UInt8} {p s : Int} {x v4 : Value} {m : List Vl} {vo : Bool} {vn : Int} (h : Ser Y n p s W x m) (hg : W.grownBy w4 x.ownBlock)
 (ho : w4.ownsRow (Y.heap.size + 1) 105 2 v4 (m.length + 1) (cellsOf m ++ [.bool vo, .int .i64 vn])) :
 w4.cell? ⟨Y.heap.size, 3, none⟩ = some x ∧ w4.frozen? ⟨Y.heap.size, 3, none⟩ = false ∧ Ser Y n p s (w4.setCell ⟨Y.heap.size, 3, none⟩ v4) v4 (m ++ [⟨vo, vn⟩]) := by
 obtain ⟨bel, rh, own⟩ := h
 have hlt := own.lt
 have hrl := rh.lt
 have hne : ∀ i, i < Y.heap.size + 1 → some i ≠ x.ownBlock := fun i hi e => by have := (hlt i e.symm).1; omega
 have rh4 : RowAt w4 Y.heap.size 88 #[.string ⟨n.toArray⟩, .int .i64 p, .int .i64 s, x, .int .i64 0] := (hg.block _ hrl (hne _ (by omega))).trans rh
 refine ⟨rh4.cell 3, rh4.frozen 3, ?_, ?_, ?_⟩
 ·have b1 : Below Y.heap.size Y w4 := bel.grown hg bel.size (fun g e => by have := (hlt g e).1; omega)
  exact b1.setCell (Nat.le_refl _) _
 ·have := rh4.set_ 3 v4
  simpa using this
 ·have ho' : OwnV (Y.heap.size + 1) w4 v4 (m ++ [⟨vo, vn⟩]) := OwnV.more ho
  exact owns_keep ho' fun g hg => by
   have := (ho'.lt g hg).1
   exact Below.heap_setCell _ ⟨Y.heap.size, 3, none⟩ v4 g (by show g ≠ Y.heap.size; omega)
theorem Wp.ser_back {W : World} {B r : Nat} {x : Value} {m : List Vl} {a b c d e : Value} (h : OwnV B W x m) (hr : r < B) : OwnV r (((((W.setCell ⟨r, 0, none⟩ a).setCell ⟨r, 1, none⟩ b).setCell ⟨r, 2, none⟩ c).setCell ⟨r, 3, none⟩ d).setCell ⟨r, 4, none⟩ e) x m := by
 have h2 : OwnV r W x m := ⟨h.1, h.2.imp id fun ⟨g, cap, cur, e, hb, rest⟩ => ⟨g, cap, cur, e, by omega, rest⟩⟩
 exact owns_keep h2 fun g hg => by
  have := (h.lt g hg).1
  have hne : g ≠ r := by omega
  exact (Below.heap_setCell _ _ _ _ hne).trans ((Below.heap_setCell _ _ _ _ hne).trans ((Below.heap_setCell _ _ _ _ hne).trans ((Below.heap_setCell _ _ _ _ hne).trans (Below.heap_setCell _ _ _ _ hne))))
theorem Wp.Fetched.yes {w w' : World} {n : List UInt8} {R : Option Se × Int} {se : Se} {x : Value} (hR : R = (some se, 0)) (ho : OwnV w.heap.size w' x se.vals) (hb : Below w.heap.size w w') :
 Fetched w n R (.returned (.tuple #[.agg #[.string ⟨n.toArray⟩, .int .i64 se.start, .int .i64 se.step, x, .int .i64 0], .int .i64 0])) w' := by
 subst hR
 exact ⟨_, rfl, fun e => (by cases e), fun s e => (by cases e; exact ⟨x, rfl, ho⟩), hb⟩
end
end Go.Proofs.YtbakngbmfgnmcaaGreatDoor
