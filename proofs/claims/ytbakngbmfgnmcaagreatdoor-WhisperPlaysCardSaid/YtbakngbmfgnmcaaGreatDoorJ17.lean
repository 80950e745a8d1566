/- WpRi WqRd WqPt WqVa -/
import Derived.Test.YtbakngbmfgnmcaaGreatDoorJ1
import Derived.Test.YtbakngbmfgnmcaaGreatDoorJ13
import Derived.Test.YtbakngbmfgnmcaaGreatDoorJ14
import Derived.Test.YtbakngbmfgnmcaaGreatDoorJ12
import Derived.Maps.OwnIn
import Derived.Test.YtbakngbmfgnmcaaGreatDoorJ16
import Derived.Test.YtbakngbmfgnmcaaGreatDoorJ6
namespace Go.Proofs.YtbakngbmfgnmcaaGreatDoor
set_option maxRecDepth 100000
set_option maxHeartbeats 8000000
section
open Go.RowKit Go.Sort
open Fx (Vl)
open Me
open Wp
theorem infoPt : (Tryz.prog.info? 54).map (fun i => (i.zero, i.size, i.bytes)) = some (some (.agg #[.int .i64 0, .int .i64 0]), 2, 16) := by kernel_rfl
def OwnP (t : TypeId) (base : Nat) (w : World) (v : Value) (l : List (Int × Int)) : Prop := w.ownsRow base t 2 v l.length (Wh.cellsA l)
section
variable {t : TypeId}
theorem OwnP.nil (a : Nat) (w : World) : OwnP t a w (.slice none 0 0) [] := ⟨rfl, .inl ⟨rfl, rfl⟩⟩
theorem OwnP.lt {base : Nat} {w : World} {v : Value} {l : List (Int × Int)} (h : OwnP t base w v l) : ∀ g, v.ownBlock = some g → base ≤ g ∧ g < w.heap.size := by
 intro g hg
 rcases h.2 with ⟨rfl, _⟩ | ⟨g', cap, cur, rfl, hb, hh, _⟩
 ·cases hg
 ·have : g' = g := by simpa [Value.ownBlock] using hg
  subst this
  exact ⟨hb, (Array.getElem?_eq_some_iff.1 hh).1⟩
theorem OwnP.below {a : Nat} {w w' : World} {v : Value} {l : List (Int × Int)} (h : OwnP t a w v l) (k : Below w.heap.size w w') : OwnP t a w' v l := owns_keep h fun g hg => k.block g (h.lt g hg).2
theorem OwnP.slice {a : Nat} {w : World} {v : Value} {l : List (Int × Int)} (h : OwnP t a w v l) : ∃ A c, v = .slice A l.length c := by
 rcases h.2 with ⟨rfl, h0⟩ | ⟨g', cap, cur, rfl, _⟩
 ·exact ⟨none, 0, by rw [h0]⟩
 ·exact ⟨_, _, rfl⟩
theorem OwnP.more {base : Nat} {w : World} {v : Value} {l : List (Int × Int)} {a b : Int} (h : w.ownsRow base t 2 v (l.length + 1) (Wh.cellsA l ++ [.int .i64 a, .int .i64 b])) : OwnP t base w v (l ++ [(a, b)]) := by
 unfold OwnP
 rw [List.length_append]
 unfold Wh.cellsA at h ⊢
 rw [List.flatMap_append]
 exact h
end
namespace Wp
def pts (fs : List Vf.Fl) (n : List UInt8) (h : Hd) (i : Nat) (k : Nat) : List (Int × Int) := (List.range k).map fun (j : Nat) => pt (Vf.read fs n (h.offs (i : Int) + 12 * (j : Int)) 12).1
theorem pts_succ (fs : List Vf.Fl) (n : List UInt8) (h : Hd) (i : Nat) (k : Nat) : pts fs n h i (k + 1) = pts fs n h i k ++ [pt (Vf.read fs n (h.offs (i : Int) + 12 * (k : Int)) 12).1] := by unfold pts; rw [List.range_succ, List.map_append]; rfl
theorem pts_len (fs : List Vf.Fl) (n : List UInt8) (h : Hd) (i : Nat) (k : Nat) : (pts fs n h i k).length = k := by unfold pts; simp
theorem ring_err {fs : List Vf.Fl} {n : List UInt8} {i : Int} (h : (info fs n).2 ≠ 0) : ring fs n i = ([], (info fs n).2) := by unfold ring; dsimp only; rw [if_pos h]
theorem ring_no {fs : List Vf.Fl} {n : List UInt8} {i : Int} (h : (info fs n).2 = 0) (hi : i < 0 ∨ ((info fs n).1.l.length : Int) ≤ i) : ring fs n i = ([], 1) := by unfold ring; dsimp only; rw [if_neg (by rw [h]; simp), if_pos hi]
theorem ring_yes {fs : List Vf.Fl} {n : List UInt8} {i : Nat} (h : (info fs n).2 = 0) (hi : i < (info fs n).1.l.length) : ring fs n (i : Int) = (pts fs n (info fs n).1 i ((info fs n).1.cnt i).toNat, 0) := by
 unfold ring; dsimp only; rw [if_neg (by rw [h]; simp), if_neg (by omega)]; rfl
end Wp
def Wp.Ringed (w : World) (R : List (Int × Int) × Int) (e : Ending) (w' : World) : Prop := ∃ v, e = .returned (.tuple #[v, .int .i64 R.2]) ∧ OwnP 54 w.heap.size w' v R.1 ∧ Below w.heap.size w w'
theorem ownp_append {t : TypeId} {X W w2 : World} {v v2 : Value} {m : List (Int × Int)} {a b : Int} (hb : Below X.heap.size X W) (ho : OwnP t X.heap.size W v m)
 (hown : w2.ownsRow X.heap.size t 2 v2 (m.length + 1) (Wh.cellsA m ++ [.int .i64 a, .int .i64 b])) (hg : W.grownBy w2 v.ownBlock) : OwnP t X.heap.size w2 v2 (m ++ [(a, b)]) ∧ Below X.heap.size X w2 :=
 ⟨OwnP.more hown, hb.grown hg hb.size fun g e => (ho.lt g e).1⟩
theorem below_two {a w : World} {o o' : Obj} (h : Below a.heap.size a w) (hs : a.heap.size ≤ w.heap.size) : Below a.heap.size a ((w.alloc o).alloc o') := (h.alloc hs _).alloc (by simp; omega) _
theorem rring_any {w : World} {V : Nat → Prop} {c fs : Nat} {S : Vf.Sv} (ro : RO w V fs c S) (hc : c ≤ 1000000) (n : List UInt8) (a : Int) :
 Calls Tryz.prog 39 #[.pointer (some ⟨fs, 0, none⟩), .string ⟨n.toArray⟩, .int .i64 a] w (Ringed w (ring S.now n a)) := by
 have HIN : Hid (∀ W, Below w.heap.size w W → Calls Tryz.prog 16 #[.pointer (some ⟨fs, 0, none⟩), .string ⟨n.toArray⟩] W (Informed W (info S.now n))) := Lib.hid fun W hb => rinfo_any (ro.below hb) (by omega) n
 have HRO := Lib.hid ro
 have HE1 := Lib.hid (ring_err (fs := S.now) (n := n) (i := a))
 have HE2 := Lib.hid (ring_no (fs := S.now) (n := n) (i := a))
 have HE3 := Lib.hid (fun i => ring_yes (fs := S.now) (n := n) (i := i))
 have HVL := Lib.hid (info_val (fs := S.now) (n := n))
 clear ro
 generalize info S.now n = R at *
 obtain ⟨⟨ag, xf, hl⟩, er⟩ := R
 by_cases he : er = 0
 ·subst he
  have hv := HVL.out rfl
  have hlen := Hd.len hv
  by_cases ht : a < 0 ∨ (hl.length : Int) ≤ a
  ·have HQ := Lib.hid (HE2.out rfl ht)
   clear HE1 HE2 HE3 HVL
   by_cases ht1 : a < 0
   ·clear ht
    go_enter Tryz.func39, Tryz.ntmps39
    go_wp2_with (go_at_call 16; (with_reducible refine (HIN.out _ (Below.refl _ _)).mono ?_); rintro e w1 ⟨A1, c1, rfl, hrow, hfr, hb1⟩; have HB1 := Lib.hid hb1; clear hb1 hrow hfr)
    ((try simp only [Exit.inBlock, Exit.then]); refine bodyPost_ret (results_tmp2 rfl _ _ _) rfl ?_)
    exact ⟨.slice none 0 0, by rw [HQ.out]; rfl, by rw [HQ.out]; exact OwnP.nil _ _, HB1.out.alloc HB1.out.size _⟩
   ·have ht2 : (hl.length : Int) ≤ a := by omega
    clear ht
    go_enter Tryz.func39, Tryz.ntmps39
    go_wp2_with (go_at_call 16; (with_reducible refine (HIN.out _ (Below.refl _ _)).mono ?_); rintro e w1 ⟨A1, c1, rfl, hrow, hfr, hb1⟩; have HB1 := Lib.hid hb1; clear hb1 hrow hfr)
    ((try simp only [Exit.inBlock, Exit.then]); refine bodyPost_ret (results_tmp2 rfl _ _ _) rfl ?_)
    exact ⟨.slice none 0 0, by rw [HQ.out]; rfl, by rw [HQ.out]; exact OwnP.nil _ _, HB1.out.alloc HB1.out.size _⟩
  ·obtain ⟨i, rfl⟩ : ∃ i : Nat, a = (i : Int) := ⟨a.toNat, by omega⟩
   have hi : i < hl.length := by omega
   have HQ := Lib.hid (HE3.out i rfl hi)
   clear HE1 HE2 HE3 HVL ht
   obtain ⟨j0, hj0, hy0, hy1, hy2⟩ := info_parts infoPt
   have HJ := Lib.hid hj0
   have HY := Lib.hid (And.intro hy0 (And.intro hy1 hy2))
   clear hj0 hy0 hy1 hy2
   have hil : (i : Int) < (hl.length : Int) := by omega
   have hi0 : (0 : Int) ≤ (i : Int) := by omega
   go_enter Tryz.func39, Tryz.ntmps39
   go_wp2_with (go_at_call 16; (with_reducible refine (HIN.out _ (Below.refl _ _)).mono ?_); rintro e w1 ⟨A1, c1, rfl, hrow, hfr, hb1⟩; have HB1 := Lib.hid hb1; have HROW := Lib.hid hrow; have hs1 := hb1.size; clear hb1 hrow hfr)
   have hX : Below w.heap.size w (w1.alloc (.cells #[.int .i64 ag, .int .i64 xf, .slice A1 hl.length c1] 24)) := HB1.out.alloc hs1 _
   have hrh : RowAt (w1.alloc (.cells #[.int .i64 ag, .int .i64 xf, .slice A1 hl.length c1] 24)) w1.heap.size 24 #[.int .i64 ag, .int .i64 xf, .slice A1 hl.length c1] := RowAt.new _ _ _
   have hra : Row (w1.alloc (.cells #[.int .i64 ag, .int .i64 xf, .slice A1 hl.length c1] 24)) A1 hl c1 := HROW.out.below ((Below.refl _ _).alloc (Nat.le_refl _) _)
   generalize w1.alloc (.cells #[.int .i64 ag, .int .i64 xf, .slice A1 hl.length c1] 24) = X at *
   generalize w1.heap.size = hb at *
   obtain ⟨b, off, rfl, har⟩ := hra.2 (by omega)
   have HX := Lib.hid hX
   have HRH := Lib.hid hrh
   have HRA := Lib.hid hra
   have HAR := Lib.hid har
   have hxs := hX.size
   obtain ⟨H, hH⟩ : ∃ H, Hid (H = (⟨ag, xf, hl⟩ : Hd)) := ⟨_, Lib.hid rfl⟩
   rw [← hH.out] at HQ hv
   have hil2 : i < H.l.length := by rw [hH.out]; exact hi
   have hcb := cnt_bd hv i hil2
   obtain ⟨⟨n1, n2⟩, n3, n4⟩ := Hd.nums hv i hil2
   obtain ⟨K, hK⟩ : ∃ K : Nat, Hid (H.cnt i = (K : Int)) := ⟨(H.cnt i).toNat, Lib.hid (by omega)⟩
   have hKb : K ≤ 87381 := by have := hK.out; omega
   have HQ2 : Hid (ring S.now n (i : Int) = (pts S.now n H i K, 0)) := Lib.hid (by rw [HQ.out, hK.out, Int.toNat_natCast])
   have HCT : Hid (∀ W, Below X.heap.size X W → W.cell? ⟨b, off + i * 2 + 1, none⟩ = some (.int .i64 (K : Int)) ∧ b < W.heap.size) := Lib.hid fun W hb => by
    have e := (har.below hb).ct i hi
    rw [show (Wh.At hl i).2 = H.cnt i by rw [hH.out]; rfl, hK.out] at e
    exact ⟨e, (har.below hb).lt⟩
   have HOF : Hid (∀ W, Below X.heap.size X W → Calls Tryz.prog 60 #[.agg #[.int .i64 ag, .int .i64 xf, .slice (some ⟨b, off, none⟩) hl.length c1], .int .i64 (i : Int)] W fun e w' => e = .returned (.int .i64 (H.offs (i : Int))) ∧ Below W.heap.size W w') := Lib.hid fun W hb => by
    have h := roffs_any ag xf hl (some ⟨b, off, none⟩) c1 (i : Int) W (hra.below hb)
    rw [show Wh.offs ag xf hl (i : Int) = H.offs (i : Int) by rw [hH.out]; rfl] at h
    exact h
   have hob := Hd.offs_bd hv (i : Int)
   obtain ⟨o, ho⟩ : ∃ o, Hid (o = H.offs (i : Int)) := ⟨_, Lib.hid rfl⟩
   rw [← ho.out] at HOF hob
   have HRX := Lib.hid (HRO.out.below hX)
   clear hX hrh hra har HQ hv hil2 hcb n1 n2 n3 n4 HROW HB1 hs1
   generalize decide ((i : Int) < 0) = bb1 at *
   generalize decide (hl.length ≤ i) = bb2 at *
   go_loopw [10, 11] (fun v u wr => ∃ k : Nat, k ≤ K ∧ u = .int .i64 k ∧ OwnP 54 X.heap.size wr v (pts S.now n H i k) ∧ Below X.heap.size X wr) (fun _ u _ => K - (intOf u).toNat)
   case atStart => exact ⟨0, Nat.zero_le _, rfl, OwnP.nil _ _, Below.refl _ _⟩
   case round =>
    obtain ⟨k, hk, rfl, hown, hbel⟩ := hrel
    have hpl := pts_len S.now n H i k
    have HPS := Lib.hid (pts_succ S.now n H i k)
    generalize hml : pts S.now n H i k = m at *
    have HML := Lib.hid hml
    clear hml
    obtain ⟨A3, c3, rfl⟩ := hown.slice
    have HO := Lib.hid hown
    have HB := Lib.hid hbel
    have hws := hbel.size
    obtain ⟨y1, hbr⟩ := HCT.out wr hbel
    have hrw := HRH.out.below hbel HRH.out.lt
    have y2 : wr.cell? ⟨hb, 2, none⟩ = some (.slice (some ⟨b, off, none⟩) hl.length c1) := hrw.cell 2
    have y0 : wr.cell? ⟨hb, 0, none⟩ = some (.int .i64 ag) := hrw.cell 0
    have y3 : wr.cell? ⟨hb, 1, none⟩ = some (.int .i64 xf) := hrw.cell 1
    have hhl := hrw.lt
    have HRW := Lib.hid (HRX.out.below hbel)
    clear hown hbel hrw
    rw [hpl] at HO
    by_cases hlt : k < K
    ·rw [← ho.out] at HPS
     obtain ⟨q, hq⟩ : ∃ q, 12 * (k : Int) = q := ⟨_, rfl⟩
     rw [hq] at HPS
     obtain ⟨r, hr⟩ : ∃ r, o + q = r := ⟨_, rfl⟩
     rw [hr] at HPS
     have hwq : IntKind.i64.wrap q = q := IntWalk.i64_in _ (by omega)
     have hwr : IntKind.i64.wrap r = r := IntWalk.i64_in _ (by omega)
     have hkK : (k : Int) < (K : Int) := by omega
     have HRD : Hid (∀ W, Below wr.heap.size wr W → Calls Tryz.prog 25 #[.pointer (some ⟨fs, 0, none⟩), .string ⟨n.toArray⟩, .int .i64 r, .int .i64 12] W (Vf.Handed W (Vf.read S.now n r 12))) := Lib.hid fun W hb => roread (HRW.out.below hb) hc n _ _
     generalize Vf.read S.now n r 12 = RR at *
     obtain ⟨L, er⟩ := RR
     have HPS' : Hid (pts S.now n H i (k + 1) = m ++ [(Sl.dat L, Sl.dnn L)]) := HPS
     clear HPS
     have HDC : Hid (∀ A c W, Reads W (.slice A L.length c) L → Calls Tryz.prog 61 #[.slice A L.length c] W fun e w' => e = .returned (.tuple #[.agg #[.int .i64 (Sl.dat L), .int .i64 (Sl.dnn L)], .bool (Sl.okd L)]) ∧ Below W.heap.size W w') := Lib.hid fun A c W h => rsdec_v L A c W h
     generalize Sl.dat L = da at *
     generalize Sl.dnn L = dn at *
     generalize Sl.okd L = ok at *
     have HOX : Hid (∀ W, Below wr.heap.size wr W → W.ownsRow X.heap.size 54 2 (.slice A3 k c3) k (Wh.cellsA m)) := Lib.hid fun W hb => by
      have h := HO.out.below hb
      unfold OwnP at h
      rw [hpl] at h
      exact h
     go_wp2_with first
      | (go_at_call 60; (with_reducible refine (HOF.out _ HB.out).mono ?_); rintro e w2 ⟨rfl, hb2⟩; have HB2 := Lib.hid hb2; have hs2 := hb2.size; clear hb2)
      | (go_at_call 25; (with_reducible refine (HRD.out _ HB2.out).mono ?_); rintro e w3 ⟨v3, rfl, hv3, hb3⟩; have HB3 : Hid (Below wr.heap.size wr w3) := Lib.hid (HB2.out.trans (hb3.mono hs2)); have HV3 : Hid (Reads w3 v3 L) := Lib.hid (by obtain ⟨A', c', e', h1', _, h3'⟩ := hv3; exact ⟨A', c', e', h1', h3'.mono fun _ _ _ => trivial⟩); obtain ⟨A4, c4, rfl, _, _⟩ := HV3.out; have hs3 := HB3.out.size; clear hb3 hv3)
      | (go_at_call 61; (with_reducible refine (HDC.out _ _ _ HV3.out).mono ?_); rintro e w4 ⟨rfl, hb4⟩; have HB4 : Hid (Below wr.heap.size wr w4) := Lib.hid (HB3.out.trans (hb4.mono hs3)); have hs4 := HB4.out.size; clear hb4)
      | (at_builtin; refine wpList_app _ rfl (.tmp 61) (.tmp 63) 38 rfl X.heap.size 54 j0 (.agg #[.int .i64 0, .int .i64 0]) 2 16 Tryz.underlying38 HJ.out HY.out.1 HY.out.2.1 HY.out.2.2 rfl (by decide) (.slice A3 k c3) k (Wh.cellsA m) rfl (HOX.out _ (below_two HB4.out hs4)) (fun b => b = w4.heap.size + 1) (some ⟨w4.heap.size + 1, 0, none⟩) 1 1 [.int .i64 da, .int .i64 dn] rfl rfl (Rd.fresh _ _ _ _ (by simp)) (by intro u hu; simp at hu; rcases hu with rfl | rfl <;> rfl) (by unfold maxLen; omega) (by omega) (by simp; omega) ?_; intro v5 w5 hown5 hg5 hat5 hnil5)
     have HN := Lib.hid (ownp_append (v := .slice A3 k c3) (m := m) (HB.out.trans ((below_two HB4.out hs4).mono hws)) (HO.out.below (below_two HB4.out hs4)) (by rw [hpl]; exact hown5) hg5)
     obtain ⟨A5, n5, c5, rfl⟩ := own_slice hown5
     clear hown5 hg5 hat5 hnil5
     go_roundw
     case rel => exact ⟨k + 1, by omega, by go_num, by rw [HPS'.out]; exact HN.out.1, HN.out.2⟩
     case measure => simp [intOf]; omega
    ·have hkK : k = K := by omega
     have hkI : ¬ (k : Int) < (K : Int) := by omega
     have HO' : Hid (OwnP 54 w.heap.size wr (.slice A3 k c3) m) := Lib.hid ⟨HO.out.1, HO.out.2.imp id fun ⟨g, cap, cur, e, hb, r⟩ => ⟨g, cap, cur, e, Nat.le_trans hxs hb, r⟩⟩
     go_wp2_with fail
     ((try simp only [Exit.inBlock, Exit.then]); refine bodyPost_ret (results_tmp2 rfl _ _ _) rfl ?_)
     exact ⟨_, by rw [HQ2.out]; rfl, by rw [HQ2.out, ← hkK, HML.out]; exact HO'.out, HX.out.trans (HB.out.mono hxs)⟩
 ·have HQ := Lib.hid (HE1.out he)
  have heb : (er == 0) = false := by simpa using he
  clear HE1 HE2 HE3 HVL
  go_enter Tryz.func39, Tryz.ntmps39
  go_wp2_with (go_at_call 16; (with_reducible refine (HIN.out _ (Below.refl _ _)).mono ?_); rintro e w1 ⟨A1, c1, rfl, hrow, hfr, hb1⟩; have HB1 := Lib.hid hb1; clear hb1 hrow hfr)
  ((try simp only [Exit.inBlock, Exit.then]); refine bodyPost_ret (results_tmp2 rfl _ _ _) rfl ?_)
  exact ⟨.slice none 0 0, by rw [HQ.out]; rfl, by rw [HQ.out]; exact OwnP.nil _ _, HB1.out.alloc HB1.out.size _⟩
end
section
open Go.RowKit Go.Shelf
open Me
open Wp
attribute [local go_sem] Oper.semAt_some
theorem chunk_fn (A : Option Addr) (n c : Nat) (w : World) : Calls Tryz.prog 119 #[.slice A n c, .int .i64 12] w fun e w' => e = .returned (.func (.func 136) #[] #[.pointer (some ⟨w.heap.size, 0, none⟩), .pointer (some ⟨w.heap.size + 1, 0, none⟩)]) ∧ w' = (w.alloc (.cells #[.slice A n c] 49)).alloc (.cells #[.int .i64 12] 3) := by
 go_enter Tryz.func119, Tryz.ntmps119
 go_wp2_with fail
 go_ret
 exact ⟨by simp, rfl⟩
theorem chunk_stops (n : Nat) (hn : 1 ≤ n) (p q b off N cap : Nat) (A : Option Addr) (hA : 0 < N → A = some ⟨b, off, none⟩) (hcap : 12 * N ≤ cap) (hN : N ≤ 1000000) (w : World) (hpl : p < w.heap.size) (hql : q < w.heap.size) (hp : w.cell? ⟨p, 0, none⟩ = some (.slice A (12 * N) cap)) (hq : w.cell? ⟨q, 0, none⟩ = some (.int .i64 12)) :
 SeqStopsK Fence.wide n Tryz.prog 136 #[.pointer (some ⟨p, 0, none⟩), .pointer (some ⟨q, 0, none⟩)] (fun x : Fin N => #[Value.slice (some ⟨b, off + 12 * x.1, none⟩) 12 12]) (Boxes p q) (fun xs => xs = List.finRange N) (fun _ => True) N w := fun l J Jx W hW hJ _ hY h0 =>
 chunk_in n hn l p q b off N cap A hA hcap hN J Jx _ hJ hY W ((hW.cell (p := ⟨p, 0, none⟩) hpl).trans hp) ((hW.cell (p := ⟨q, 0, none⟩) hql).trans hq) h0
namespace Wp
theorem boxes_t {p q : Nat} {A B C : World} (h : Boxes p q A B) (k : Boxes p q B C) : Boxes p q A C := ⟨k.1.trans h.1, k.2.trans h.2⟩
theorem boxes_b {p q : Nat} {w : World} (hp : p < w.heap.size) (hq : q < w.heap.size) (W : World) (l : Nat) (o o' : Obj) (hl : w.heap.size ≤ l) (_ : W.heap[l]? = some o) (_ : o.isCells = false) (_ : o.isWalk = false) : Boxes p q W (W.putObj l o') := by
 have k : ∀ i, i ≠ l → (W.putObj l o').heap[i]? = W.heap[i]? := fun i hi => World.putObj_heap_other (by omega)
 exact ⟨World.cell?_of_block (k p (by omega)), World.cell?_of_block (k q (by omega))⟩
theorem boxes_keep {p q : Nat} {W W' : World} (h1 : W'.heap[p]? = W.heap[p]?) (h2 : W'.heap[q]? = W.heap[q]?) : Boxes p q W W' := ⟨World.cell?_of_block h1, World.cell?_of_block h2⟩
theorem read_step {W W3 w1 : World} {base B k m : Nat} {t e : TypeId} {v v' : Value} {xs ys : List Value} {s2 sx : Nat} (hv : Boxed W B t v) (hte : t ≠ e) (hrow : W.ownsRow base e 2 v k xs) (hG : ∀ g, v.ownBlock = some g → g < s2 ∨ sx ≤ g) (hB : base ≤ B) (hs : sx ≤ W.heap.size) (hbw : base ≤ W.heap.size)
 (hb : Below W.heap.size W W3) (hown : w1.ownsRow base e 2 v' m ys) (hg : W3.grownBy w1 v.ownBlock) (hat : v'.ownBlock = v.ownBlock ∨ v'.ownBlock = some W3.heap.size) :
 Boxed w1 B t v ∧ Boxed (w1.setCell ⟨B, 0, none⟩ v') B t v' ∧ (w1.setCell ⟨B, 0, none⟩ v').ownsRow base e 2 v' m ys ∧ KeepsOthers W (w1.setCell ⟨B, 0, none⟩ v') ∧ Below base W (w1.setCell ⟨B, 0, none⟩ v') ∧
  (∀ g, v'.ownBlock = some g → g < s2 ∨ sx ≤ g) ∧ (∀ j, j < W.heap.size → some j ≠ v.ownBlock → j ≠ B → (w1.setCell ⟨B, 0, none⟩ v').heap[j]? = W.heap[j]?) := by
 have hv3 : Boxed W3 B t v := (hb.block B hv.lt).trans hv
 have hr3 : W3.ownsRow base e 2 v k xs := owns_keep hrow fun g hgg => hb.block g (by
  rcases hrow.2 with ⟨rfl, _⟩ | ⟨g', cap, cur, rfl, _, hgb, _⟩
  ·cases hgg
  ·have : g' = g := by simpa [Value.ownBlock] using hgg
   subst this
   exact (Array.getElem?_eq_some_iff.1 hgb).1)
 have hv1 : Boxed w1 B t v := hv3.kept hg (hv3.not_row hte hr3)
 have hkeep : ∀ j, j < W.heap.size → some j ≠ v.ownBlock → j ≠ B → (w1.setCell ⟨B, 0, none⟩ v').heap[j]? = W.heap[j]? := fun j hj h1 h2 =>
  (Below.heap_setCell _ _ _ _ h2).trans ((hg.block j (Nat.lt_of_lt_of_le hj hb.size) h1).trans (hb.block j hj))
 refine ⟨hv1, hv1.set v', hown.kept (grownBy_setCell' w1 B v') (.inr (hv1.not_row hte hown).symm), ?_, ?_, ?_, hkeep⟩
 ·refine ⟨?_, fun j o hj ho => ?_⟩
  ·have h1 := hb.size
   have h2 := hg.size
   simp [World.setCell]; omega
  ·have hjl := (Array.getElem?_eq_some_iff.1 hj).1
   refine (hkeep j hjl (fun e' => ?_) (fun e' => ?_)).trans hj
   ·rcases hrow.2 with ⟨rfl, _⟩ | ⟨g, cap, cur, rfl, _, hgb, _⟩
    ·simp [Value.ownBlock] at e'
    ·obtain rfl : j = g := by simpa [Value.ownBlock] using e'
     rw [hgb] at hj; cases hj; cases ho
   ·subst e'
    rw [show W.heap[j]? = _ from hv] at hj; cases hj; cases ho
 ·refine ((hb.mono hbw).grown hg (Nat.le_trans hbw hb.size) fun j ej => ?_).setCell (p := ⟨B, 0, none⟩) hB v'
  rcases hrow.2 with ⟨rfl, _⟩ | ⟨g, cap, cur, rfl, hb', _, _⟩
  ·simp [Value.ownBlock] at ej
  ·obtain rfl : g = j := by simpa [Value.ownBlock] using ej
   exact hb'
 ·intro g hgg
  rcases hat with h | h
  ·exact hG g (h ▸ hgg)
  ·rw [h] at hgg
   obtain rfl : W3.heap.size = g := by simpa using hgg
   exact .inr (Nat.le_trans hs hb.size)
theorem own_cells {β : Type} (b off m : Nat) (w3 : World) : Own (fun (_ : β) W => ∀ j u, j < m → w3.cell? ⟨b, off + j, none⟩ = some u → W.cell? ⟨b, off + j, none⟩ = some u) := fun _ _ _ _ hs hg hr j u hj hu => cell_kept (hs j u hj hu) hg hr
theorem own_size {β : Type} (k : Nat) : Own (fun (_ : β) W => k ≤ W.heap.size) := fun _ _ _ _ hs hg _ => Nat.le_trans hs hg.size
theorem two_cells_new (w : World) (a b : Int) : ∀ j u, [(.int .i64 a : Value), .int .i64 b][j]? = some u → ((w.alloc (.cells #[.int .i64 a, .int .i64 b] 54)).alloc (.cells #[.int .i64 a, .int .i64 b] 54)).cell? ((⟨w.heap.size + 1, 0, none⟩ : Addr).add j) = some u := by
 intro j u hj
 have hr : RowAt ((w.alloc (.cells #[.int .i64 a, .int .i64 b] 54)).alloc (.cells #[.int .i64 a, .int .i64 b] 54)) (w.heap.size + 1) 54 #[.int .i64 a, .int .i64 b] := RowAt.new' (by simp)
 rw [Addr.add_lit, Nat.zero_add, hr.cell]
 simpa using hj
def ptsOf (B : List UInt8) (o N : Nat) (pre : List (Fin N)) : List (Int × Int) := pre.map fun x => slot B (o + 12 * x.1)
theorem ptsOf_all (B : List UInt8) (o N : Nat) : ptsOf B o N (List.finRange N) = side B o N := by
 unfold ptsOf side
 apply List.ext_getElem
 ·simp
 ·intro i h1 h2
  simp
theorem ptsOf_snoc (B : List UInt8) (o N : Nat) (pre : List (Fin N)) (x : Fin N) : ptsOf B o N (pre ++ [x]) = ptsOf B o N pre ++ [slot B (o + 12 * x.1)] := by unfold ptsOf; simp
theorem ptsOf_len (B : List UInt8) (o N : Nat) (pre : List (Fin N)) : (ptsOf B o N pre).length = pre.length := by unfold ptsOf; simp
end Wp
theorem read_any7 {w : World} {V : Nat → Prop} {c fs : Nat} {S : Vf.Sv} {n : List UInt8} {h : Hd} {B : List UInt8} {A : Option Addr} {cap : Nat} (ro : PO w V fs c S) (f : Fits S.now n h B) (ix : Nat) (hi : ix < h.l.length) (place m : Nat) (hpm : (place : Int) + (m : Int) ≤ h.cnt ix)
 (base : Nat) (v0 : Value) (l0 : List (Int × Int)) (hbase : base ≤ w.heap.size) (hrow : OwnP 54 base w v0 l0) (hl0 : l0.length + m ≤ 1000000) :
 Calls Tryz.prog 100 #[ringV h ix A cap fs n, v0, .int .i64 (place : Int), .int .i64 (m : Int)] w fun e w' => ∃ v, e = .returned v ∧ OwnP 54 base w' v (l0 ++ side B ((h.offs (ix : Int)).toNat + 12 * place) m) ∧ Below base w w' := by
 have hr := f.ring hi
 obtain ⟨⟨n1, n2⟩, n3, n4⟩ := Hd.nums f.val ix hi
 obtain ⟨o, ho⟩ : ∃ o : Nat, h.offs (ix : Int) = (o : Int) := ⟨(h.offs (ix : Int)).toNat, by omega⟩
 have hbl : o + 12 * (place + m) ≤ B.length := by omega
 have hB : B.length ≤ 4294967296 := by
  obtain ⟨_, _, _, ha⟩ := Wh.val_t f.val
  obtain ⟨a1, a2, a3, a4, a5⟩ := Wh.av_t ha
  have := size_eq f.val
  have := f.size
  omega
 have HRD : Hid (∀ W, Below w.heap.size w W → Calls Tryz.prog 41 #[.pointer (some ⟨fs, 0, none⟩), .string ⟨n.toArray⟩, .int .i64 ((o + 12 * place : Nat) : Int), .int .i64 ((12 * m : Nat) : Int)] W (Vf.Handed W (((B.drop (o + 12 * place)).take (12 * m)), 0))) := Lib.hid fun W hb => by
  have h := poread (ro.below hb) n ((o + 12 * place : Nat) : Int) ((12 * m : Nat) : Int) (by omega)
  rw [f.has.read_eq (by omega) (by omega) (by omega), Int.toNat_natCast, Int.toNat_natCast] at h
  exact h
 have HLEN : Hid (((B.drop (o + 12 * place)).take (12 * m)).length = 12 * m) := Lib.hid (by rw [List.length_take, List.length_drop]; omega)
 have HCUT : Hid (∀ k, k < m → (((B.drop (o + 12 * place)).take (12 * m)).drop (12 * k)).take 12 = (B.drop (o + 12 * place + 12 * k)).take 12) := Lib.hid fun k hk => slot_cut hk
 rw [ho]
 rw [Int.toNat_natCast]
 obtain ⟨a1, ha1⟩ : ∃ a1, 12 * (place : Int) = a1 := ⟨_, rfl⟩
 obtain ⟨a2, ha2⟩ : ∃ a2, (o : Int) + a1 = a2 := ⟨_, rfl⟩
 obtain ⟨a3, ha3⟩ : ∃ a3, 12 * (m : Int) = a3 := ⟨_, rfl⟩
 have hm1 : IntKind.i64.wrap a1 = a1 := IntWalk.i64_in _ (by omega)
 have hm2 : IntKind.i64.wrap a2 = a2 := IntWalk.i64_in _ (by omega)
 have hm3 : IntKind.i64.wrap a3 = a3 := IntWalk.i64_in _ (by omega)
 rw [show ((o + 12 * place : Nat) : Int) = a2 by omega, show ((12 * m : Nat) : Int) = a3 by omega] at HRD
 unfold ringV
 rw [ho]
 obtain ⟨A0, c0, rfl⟩ := hrow.slice
 have HROW := Lib.hid hrow
 clear hrow ro n1 n2 n3 n4 hr hpm hbl
 obtain ⟨L, hL⟩ : ∃ L, Hid (L = (B.drop (o + 12 * place)).take (12 * m)) := ⟨_, Lib.hid rfl⟩
 rw [← hL.out] at HRD HLEN
 have hlen := HLEN.out
 clear f ho
 generalize h.step ix = s at *
 generalize h.cnt ix = k at *
 generalize h.l.length = hln at *
 generalize h.ag = ag at *
 generalize h.xf = xf at *
 refine (callsIn_wide (n := 6)).1 ?_
 refine callsIn_of_wp_marks Tryz.func100 rfl trivial ?_ rfl
 simp only [Tryz.ntmps100, List.size_toArray, List.length_cons, List.length_nil, Nat.reduceAdd, Nat.reduceSub, Array.replicate_succ, Array.replicate_zero, List.push_toArray, List.append_toArray, List.nil_append, List.cons_append]
 obtain ⟨i0, hi0', hz0, hz1, hz2⟩ := info_parts infoPt
 have HI := Lib.hid hi0'
 have HZ := Lib.hid (And.intro hz0 (And.intro hz1 hz2))
 clear hi0' hz0 hz1 hz2
 have bO := (Boxed.new (w.alloc (.cells #[.int .i64 s, .int .i64 k, .int .i64 ag, .int .i64 xf, .slice A hln cap, .pointer (some ⟨fs, 0, none⟩), .string ⟨n.toArray⟩, .int .i64 (o : Int)] 137)) 38 (.slice A0 l0.length c0))
 rw [World.size_alloc] at bO
 have HX : Hid (Below w.heap.size w ((w.alloc (.cells #[.int .i64 s, .int .i64 k, .int .i64 ag, .int .i64 xf, .slice A hln cap, .pointer (some ⟨fs, 0, none⟩), .string ⟨n.toArray⟩, .int .i64 (o : Int)] 137)).alloc (.cells #[.slice A0 l0.length c0] 38))) := Lib.hid (((Below.refl _ _).alloc (Nat.le_refl _) _).alloc (by simp) _)
 gi_wp2_with (refine ⟨trivial, ?_⟩; first
  | (gi_at_call 41; (with_reducible refine (callsIn_wide.2 (HRD.out _ HX.out)).mono ?_); rintro e w3 ⟨v3, rfl, hv3, hb3⟩; have hs3 := hb3.size; obtain ⟨A3, c3, rfl, hc3, _, hrd3⟩ := hv3)
  | (gi_at_call 119; (with_reducible refine (callsIn_wide.2 (chunk_fn A3 (12 * m) c3 w3)).mono ?_); rintro e w4 ⟨rfl, rfl⟩))
 have hlc : 12 * m ≤ c3 := by rw [← hlen]; exact hc3
 obtain ⟨b, off, hA3, hb2, hb3', hby⟩ : ∃ b off, (0 < m → A3 = some ⟨b, off, none⟩) ∧ (0 < m → w.heap.size + 2 ≤ b) ∧ (0 < m → b < w3.heap.size) ∧ (0 < m → By w3 b off L) := by
  by_cases h0 : m = 0
  ·exact ⟨0, 0, fun h => by omega, fun h => by omega, fun h => by omega, fun h => by omega⟩
  ·obtain ⟨b, off, e, hby⟩ := By.of hrd3 (by omega)
   obtain ⟨ad, e2, hl, hg, _⟩ := hrd3 (by rw [Ne, ← List.length_eq_zero_iff, by8_len]; omega)
   rw [e] at e2
   cases e2
   simp at hg
   exact ⟨b, off, fun _ => e, fun _ => by omega, fun _ => hl, fun _ => hby⟩
 have hv3 : Boxed w3 (w.heap.size + 1) 38 (.slice A0 l0.length c0) := (hb3.block _ (by simp)).trans bO
 have hs3' : w.heap.size + 2 ≤ w3.heap.size := by simp at hs3; omega
 have hBw3 : Below w.heap.size w w3 := HX.out.trans (hb3.mono (by simp; omega))
 have hrow3 := HROW.out.below hBw3
 have hlt0 := HROW.out.lt
 obtain ⟨s2, hs2⟩ : ∃ s2, s2 = w.heap.size := ⟨_, rfl⟩
 clear hrd3 HRD bO hc3 hs3
 refine wpIn_rangeFunc_ownG rfl (by omega) (gf := 136) (lb := #[.pointer (some ⟨w3.heap.size, 0, none⟩), .pointer (some ⟨w3.heap.size + 1, 0, none⟩)]) rfl trivial (enters_of Tryz.func136 (by kernel_rfl) rfl)
  (chunk_stops _ (by omega) w3.heap.size (w3.heap.size + 1) b off m c3 A3 hA3 hlc (by omega) _ (by simp; omega) (by simp) ((Boxed.new w3 _ _).alloc _).cell (by simp)) boxes_t (boxes_b (by simp; omega) (by simp)) (Below.refl _ _) (fun _ => rfl)
  (fun pre W => (∃ v, Boxed W (w.heap.size + 1) 38 v ∧ W.ownsRow base 54 2 v (l0 ++ ptsOf B (o + 12 * place) m pre).length (Wh.cellsA (l0 ++ ptsOf B (o + 12 * place) m pre)) ∧ (∀ g, v.ownBlock = some g → g < w.heap.size ∨ w3.heap.size + 2 ≤ g)) ∧ (Below base w W ∧ (∀ j u, j < 12 * m → w3.cell? ⟨b, off + j, none⟩ = some u → W.cell? ⟨b, off + j, none⟩ = some u) ∧ w3.heap.size + 2 ≤ W.heap.size))
  (fun _ _ _ => False)
  (OwnFrom.and (Own.from (holdsRow_own base (w.heap.size + 1) 38 54 2 (fun pre => (l0 ++ ptsOf B (o + 12 * place) m pre).length) (fun pre => Wh.cellsA (l0 ++ ptsOf B (o + 12 * place) m pre)) (fun pre v => ∀ g, v.ownBlock = some g → g < w.heap.size ∨ w3.heap.size + 2 ≤ g)) _) (OwnFrom.and (ownFrom_below hbase (by simp; omega)) (OwnFrom.and (Own.from (own_cells b off (12 * m) w3) _) (Own.from (own_size (w3.heap.size + 2)) _))))
  (fun _ _ _ _ _ hs _ _ => hs)
  ?start
  (fun x => { tmps := #[.agg #[.int .i64 s, .int .i64 k, .int .i64 ag, .int .i64 xf, .slice A hln cap, .pointer (some ⟨fs, 0, none⟩), .string ⟨n.toArray⟩, .int .i64 (o : Int)], .slice A0 l0.length c0, .int .i64 (place : Int), .int .i64 (m : Int), .pointer (some ⟨w.heap.size, 0, none⟩), .pointer (some ⟨w.heap.size + 1, 0, none⟩), undef, undef, .slice none 0 0, .slice A3 (12 * m) c3, .int .i64 0, .slice (some ⟨b, off + 12 * x.1, none⟩) 12 12, undef, undef, .tuple #[.slice A3 (12 * m) c3, .int .i64 0], .pointer (some ⟨w.heap.size, 2, none⟩), .pointer (some ⟨w.heap.size, 5, none⟩), .pointer (some ⟨fs, 0, none⟩), .pointer (some ⟨w.heap.size, 2, none⟩), .pointer (some ⟨w.heap.size, 6, none⟩), .string ⟨n.toArray⟩, .pointer (some ⟨w.heap.size, 7, none⟩), .int .i64 (o : Int), .int .i64 (place : Int), .int .i64 a1, .int .i64 a2, .int .i64 (m : Int), .int .i64 a3, .tuple #[.slice A3 (12 * m) c3, .int .i64 0], .slice A3 (12 * m) c3, .int .i64 0, .slice A3 (12 * m) c3, .func (.func 136) #[] #[.pointer (some ⟨w3.heap.size, 0, none⟩), .pointer (some ⟨w3.heap.size + 1, 0, none⟩)], .slice (some ⟨b, off + 12 * x.1, none⟩) 12 12, undef, undef, undef, undef, undef, undef, undef, undef, undef, undef], defers := [] }) ?assign ?body ?done ?stop
 case start => exact ⟨⟨_, (hv3.alloc _).alloc _, (by
  have h := hrow3.below (((Below.refl w3.heap.size w3).alloc (Nat.le_refl _) (.cells #[.slice A3 (12 * m) c3] 49)).alloc (by simp) (.cells #[.int .i64 12] 3))
  unfold OwnP at h
  simpa [ptsOf] using h), fun g hg => .inl (hlt0 g hg).2⟩, (hBw3.mono hbase).alloc (by omega) _ |>.alloc (by simp; omega) _, fun j u hj hu => by
   have hbl : b < w3.heap.size := hb3' (by omega)
   exact ((((Below.refl w3.heap.size w3).alloc (Nat.le_refl _) _).alloc (by simp) _).cell (p := ⟨b, off + j, none⟩) hbl).trans hu, by simp⟩
 case assign =>
  intro l x W K hK
  gi_wp2
  exact hK
 case body =>
  rintro l pre x W ⟨⟨v, hv, hrow, hG⟩, hBW, hcells, hWs⟩ hlt
  have hx := x.2
  have hA := hA3 (by omega)
  have hby' := hby (by omega)
  have hbW : b < W.heap.size := by
   obtain ⟨u, hu⟩ : ∃ u, w3.cell? ⟨b, off + 0, none⟩ = some u := ⟨_, hby'.at_ 0 (by omega)⟩
   have h1 := hcells 0 u (by omega) hu
   have h2 : W.heap[b]? ≠ none := by
    intro e
    unfold World.cell? at h1
    rw [e] at h1
    cases h1
   exact Nat.lt_of_not_le fun e => h2 (by rw [Array.getElem?_eq_none_iff]; exact e)
  have hbyW : By W b off L := ⟨hbW, fun j hj => hcells j _ (by omega) (hby'.at_ j hj)⟩
  have hdec := sdecode_12 ((L.drop (12 * x.1)).take 12) (by rw [List.length_take, List.length_drop]; omega) b (off + 12 * x.1) 12 W ((hbyW.drop (12 * x.1)).take 12 (by rw [List.length_drop]; omega)) (Nat.le_refl _)
  have hKl : (l0 ++ ptsOf B (o + 12 * place) m pre).length ≤ 1000000 := by rw [List.length_append, ptsOf_len]; omega
  have HSN := Lib.hid (ptsOf_snoc B (o + 12 * place) m pre x)
  have HSL : Hid (slot B (o + 12 * place + 12 * x.1) = (Wh.nm ((L.drop (12 * x.1)).take 12) 0, Sl.dn ((L.drop (12 * x.1)).take 12))) := Lib.hid (by
   have hl12 : ((L.drop (12 * x.1)).take 12).length = 12 := by rw [List.length_take, List.length_drop]; omega
   unfold slot pt
   rw [← HCUT.out x.1 hx, ← hL.out]
   unfold Sl.dat Sl.dnn
   rw [if_pos hl12, if_pos hl12])
  generalize Wh.nm ((L.drop (12 * x.1)).take 12) 0 = pa at *
  generalize Sl.dn ((L.drop (12 * x.1)).take 12) = pn at *
  generalize hK : l0 ++ ptsOf B (o + 12 * place) m pre = K at *
  obtain ⟨Av, cv, rfl⟩ := OwnP.slice (t := 54) (l := K) hrow
  have hvc := hv.cell
  have hvl := hv.lt
  have HO : Hid (OwnP 54 base W (.slice Av K.length cv) K) := Lib.hid hrow
  have hbase2 : base ≤ W.heap.size := by omega
  gi_wp2_with first
   | (refine ⟨trivial, ?_⟩; gi_at_call 120; refine (CallsIn.inRound l (callsIn_wide.2 hdec)).mono ?_; rintro e w5 ⟨rfl, hb5⟩; have HB5 := Lib.hid hb5; have hv6 : (w5.alloc (.cells #[.int .i64 pa, .int .i64 pn] 54)).cell? ⟨w.heap.size + 1, 0, none⟩ = some (.slice Av K.length cv) := ((hb5.alloc hb5.size (.cells #[.int .i64 pa, .int .i64 pn] 54)).cell (p := ⟨w.heap.size + 1, 0, none⟩) hvl).trans hvc; have hs5 := hb5.size; clear hb5)
   | (gi_at_builtin; go_loud (have HW3 : Hid (Below W.heap.size W ((w5.alloc (.cells #[.int .i64 pa, .int .i64 pn] 54)).alloc (.cells #[.int .i64 pa, .int .i64 pn] 54))) := Lib.hid ((HB5.out.alloc hs5 _).alloc (by simp; omega) _); refine wpListIn_append_own_at _ rfl _ _ 38 rfl base 54 i0 (.agg #[.int .i64 0, .int .i64 0]) 2 16 Tryz.underlying38 HI.out HZ.out.1 HZ.out.2.1 HZ.out.2.2 rfl (by decide) (.slice Av K.length cv) K.length (Wh.cellsA K) rfl (HO.out.below HW3.out) ⟨w5.heap.size + 1, 0, none⟩ 1 1 [.int .i64 pa, .int .i64 pn] rfl rfl (two_cells_new w5 pa pn) (by intro u hu; simp at hu; rcases hu with rfl | rfl <;> rfl) (by unfold maxLen; omega) (by omega) (by have := HW3.out.size; omega) ?_; intro v' w7 hown7 hg7 hnil7 hat7; obtain ⟨g7, cap7, rfl⟩ := ownsRow_succ hown7; obtain ⟨q1, q2, q3, q4, q5, q6, q7⟩ := read_step hv (by decide) hrow hG (by omega) hWs hbase2 HW3.out hown7 hg7 hat7; have hc7 := q1.cell; have hf7 := q1.frozen))
  have hob : ∀ j, w.heap.size ≤ j → j < w3.heap.size + 2 → some j ≠ (Value.slice Av K.length cv).ownBlock := fun j h1 h2 e => by
   rcases hG j e.symm with h | h <;> omega
  have hKK : l0 ++ ptsOf B (o + 12 * place) m (pre ++ [x]) = K ++ [(pa, pn)] := by rw [HSN.out, HSL.out, ← List.append_assoc, hK]
  have hbs := hb2 (by omega)
  have hbs' := hb3' (by omega)
  refine ⟨q4.from _, boxes_keep (q7 _ (by omega) (hob _ (by omega) (by omega)) (by omega)) (q7 _ (by omega) (hob _ (by omega) (by omega)) (by omega)), ⟨_, q2, ?_, q6⟩, hBW.trans q5, fun j u hj hu => ?_, by have := q4.size; omega⟩
  ·rw [hKK]
   have h := OwnP.more (t := 54) (l := K) q3
   unfold OwnP at h
   exact h
  ·exact (World.cell?_of_block (q7 b (by omega) (hob b (by omega) (by omega)) (by omega))).trans (hcells j u hj hu)
 case done =>
  rintro D ys W hD rfl ⟨⟨v, hv, hrow, hG⟩, hBW, hcells, hWs⟩ hK
  rw [ptsOf_all] at hrow
  generalize hKe : l0 ++ side B (o + 12 * place) m = K at hrow
  have HKE := Lib.hid hKe
  clear hKe
  obtain ⟨Av, cv, rfl⟩ := OwnP.slice (t := 54) (l := K) hrow
  have hc := hv.cell
  gi_wp2
  refine ⟨by simp, .inl ⟨_, _, rfl, run_takeDeferred hK, ?_⟩⟩
  refine ⟨_, results_tmp rfl _ _ _, .slice Av K.length cv, rfl, ?_, ?_⟩
  ·rw [HKE.out]; exact ownsRow_putObj hrow (.deferred none) hK rfl
  ·exact hBW.trans (belowK_b (w := w) hbase W D _ _ (by simp at hD; omega) hK rfl rfl)
 case stop =>
  rintro D c pre W _ _ h _
  exact h.elim
end
section
open Go.RowKit Go.Sort
open Fx (Vl)
open Me
open Wp
theorem own_room {w : World} {base k : Nat} {t : TypeId} {CS : Array Value} (hb : base ≤ w.heap.size) (hk : k ≤ maxLen) (hcs : CS.size = k * 2) : OwnP t base (w.alloc (.cells CS t)) (.slice (some ⟨w.heap.size, 0, none⟩) 0 k) [] :=
 ⟨rfl, .inr ⟨w.heap.size, k, CS, rfl, hb, World.alloc_heap_new w _, Nat.zero_le _, hk, by omega, by simp [Wh.cellsA]⟩⟩
theorem own_weak {w : World} {a b : Nat} {t : TypeId} {v : Value} {l : List (Int × Int)} (h : OwnP t b w v l) (hab : a ≤ b) : OwnP t a w v l := by
 refine ⟨h.1, ?_⟩
 rcases h.2 with h | ⟨g, cap, cur, e, hb, rest⟩
 ·exact .inl h
 ·exact .inr ⟨g, cap, cur, e, Nat.le_trans hab hb, rest⟩
theorem points_any {w : World} {V : Nat → Prop} {c fs : Nat} {S : Vf.Sv} {n : List UInt8} {h : Hd} {B : List UInt8} {A : Option Addr} {cap : Nat} (ro : PO w V fs c S) (f : Fits S.now n h B) (ix : Nat) (hi : ix < h.l.length) (place m C : Nat) (hC : h.cnt ix = (C : Int)) (hp : place < C) (hm : m ≤ C) :
 Calls Tryz.prog 66 #[ringV h ix A cap fs n, .int .i64 (place : Int), .int .i64 (m : Int)] w fun e w' => ∃ v, e = .returned v ∧ OwnP 54 w.heap.size w' v (round B (h.offs (ix : Int)).toNat C place m) ∧ Below w.heap.size w w' := by
 have hcb := cnt_bd f.val ix hi
 have HRD : Hid (∀ W v0 l0 (pl k : Nat), Below w.heap.size w W → w.heap.size + 1 ≤ W.heap.size → OwnP 54 (w.heap.size + 1) W v0 l0 → pl + k ≤ C → l0.length + k ≤ 1000000 → Calls Tryz.prog 100 #[ringV h ix A cap fs n, v0, .int .i64 (pl : Int), .int .i64 (k : Int)] W fun e w' => ∃ v, e = .returned v ∧ OwnP 54 (w.heap.size + 1) w' v (l0 ++ side B ((h.offs (ix : Int)).toNat + 12 * pl) k) ∧ Below (w.heap.size + 1) W w') := Lib.hid fun W v0 l0 pl k hb hs ho h1 h2 =>
  read_any7 (ro.below hb) f ix hi pl k (by omega) (w.heap.size + 1) v0 l0 hs ho h2
 obtain ⟨i0, hi0, hz0, hz1, hz2⟩ := info_parts infoPt
 obtain ⟨CS, hmk, hcs⟩ : ∃ (CS : Array Value), (∀ W : World, (Instr.makeSlice 38 (.int .i64 0) (.int .i64 (m : Int))).run Tryz.prog W = .ok (.slice (some ⟨W.heap.size, 0, none⟩) 0 m) (W.alloc (.cells CS 54))) ∧ CS.size = m * 2 := by
  refine ⟨madeCells #[.int .i64 0, .int .i64 0] (m * 2), fun W => ?_, by rw [size_madeCells]⟩
  have h := run_make (P := Tryz.prog) W 38 54 i0 (.agg #[.int .i64 0, .int .i64 0]) Tryz.underlying38 hi0 hz0 .i64 .i64 0 (m : Int) (by omega) (by omega) (by rw [hz2]; omega) (by omega)
  have e : (Value.agg #[.int .i64 0, .int .i64 0]).cells = #[.int .i64 0, .int .i64 0] := by simp [Value.cells]
  rw [hz1, Int.toNat_natCast, e] at h
  exact h
 clear hi0 hz0 hz1 hz2 ro
 unfold ringV at *
 rw [hC] at HRD ⊢
 obtain ⟨o, ho⟩ : ∃ o : Nat, (h.offs (ix : Int)).toNat = o := ⟨_, rfl⟩
 rw [ho] at HRD ⊢
 obtain ⟨k1, hk1⟩ : ∃ k1 : Nat, k1 = min m (C - place) := ⟨_, rfl⟩
 have HRN : Hid (round B o C place m = (([] : List (Int × Int)) ++ side B (o + 12 * place) k1) ++ side B (o + 12 * 0) (m - k1)) := Lib.hid (by rw [hk1]; rfl)
 obtain ⟨LG, hLG⟩ : ∃ LG, LG = round B o C place m := ⟨_, rfl⟩
 rw [← hLG]
 have HLG : Hid (LG = (([] : List (Int × Int)) ++ side B (o + 12 * place) k1) ++ side B (o + 12 * 0) (m - k1)) := Lib.hid (by rw [hLG, HRN.out])
 clear hLG
 have hmin : min (m : Int) ((C : Int) - (place : Int)) = (k1 : Int) := by omega
 obtain ⟨d1, hd1⟩ : ∃ d1, (C : Int) - (place : Int) = d1 := ⟨_, rfl⟩
 rw [hd1] at hmin
 have hwd : IntKind.i64.wrap d1 = d1 := IntWalk.i64_in _ (by omega)
 obtain ⟨k2, hk2⟩ : ∃ k2 : Nat, k2 = m - k1 := ⟨_, rfl⟩
 rw [← hk2] at HLG
 have hsub : (m : Int) - (k1 : Int) = (k2 : Int) := by omega
 have hw2 : IntKind.i64.wrap (k2 : Int) = (k2 : Int) := IntWalk.i64_in _ (by omega)
 have HK1 : Hid (place + k1 ≤ C ∧ k1 ≤ 1000000 ∧ k1 + k2 ≤ 1000000 ∧ 0 + k2 ≤ C) := Lib.hid ⟨by omega, by omega, by omega, by omega⟩
 clear f HRN ho hk1 hk2
 generalize h.step ix = s at *
 generalize h.offs (ix : Int) = of_ at *
 generalize h.l.length = hln at *
 generalize h.ag = ag at *
 generalize h.xf = xf at *
 have HR0 : Hid (OwnP 54 (w.heap.size + 1) ((w.alloc (.cells #[.int .i64 s, .int .i64 (C : Int), .int .i64 ag, .int .i64 xf, .slice A hln cap, .pointer (some ⟨fs, 0, none⟩), .string ⟨n.toArray⟩, .int .i64 of_] 137)).alloc (.cells CS 54)) (.slice (some ⟨w.heap.size + 1, 0, none⟩) 0 m) []) := Lib.hid (by
  have h := own_room (w := w.alloc (.cells #[.int .i64 s, .int .i64 (C : Int), .int .i64 ag, .int .i64 xf, .slice A hln cap, .pointer (some ⟨fs, 0, none⟩), .string ⟨n.toArray⟩, .int .i64 of_] 137)) (base := w.heap.size + 1) (t := 54) (by simp) (by unfold maxLen; omega) hcs
  rw [World.size_alloc] at h
  exact h)
 have HB0 : Hid (Below w.heap.size w ((w.alloc (.cells #[.int .i64 s, .int .i64 (C : Int), .int .i64 ag, .int .i64 xf, .slice A hln cap, .pointer (some ⟨fs, 0, none⟩), .string ⟨n.toArray⟩, .int .i64 of_] 137)).alloc (.cells CS 54))) := Lib.hid (((Below.refl _ _).alloc (Nat.le_refl _) _).alloc (by simp) _)
 have HBX : Hid (∀ W, Below (w.heap.size + 1) ((w.alloc (.cells #[.int .i64 s, .int .i64 (C : Int), .int .i64 ag, .int .i64 xf, .slice A hln cap, .pointer (some ⟨fs, 0, none⟩), .string ⟨n.toArray⟩, .int .i64 of_] 137)).alloc (.cells CS 54)) W → RowAt W w.heap.size 137 #[.int .i64 s, .int .i64 (C : Int), .int .i64 ag, .int .i64 xf, .slice A hln cap, .pointer (some ⟨fs, 0, none⟩), .string ⟨n.toArray⟩, .int .i64 of_]) := Lib.hid fun W hb => ((RowAt.new w _ _).alloc _).below hb (Nat.lt_succ_self _)
 have HRD2 : Hid (∀ W v0 l0 (k : Nat), Below w.heap.size w W → w.heap.size + 1 ≤ W.heap.size → OwnP 54 (w.heap.size + 1) W v0 l0 → k ≤ C → l0.length + k ≤ 1000000 → Calls Tryz.prog 100 #[.agg #[.int .i64 s, .int .i64 (C : Int), .int .i64 ag, .int .i64 xf, .slice A hln cap, .pointer (some ⟨fs, 0, none⟩), .string ⟨n.toArray⟩, .int .i64 of_], v0, .int .i64 0, .int .i64 (k : Int)] W fun e w' => ∃ v, e = .returned v ∧ OwnP 54 (w.heap.size + 1) w' v (l0 ++ side B (o + 12 * 0) k) ∧ Below (w.heap.size + 1) W w') := Lib.hid fun W v0 l0 k hb hs ho h1 h2 => HRD.out W v0 l0 0 k hb hs ho (by omega) h2
 go_enter Tryz.func66, Tryz.ntmps66
 go_wp2_with first
  | (go_at_call 100; (with_reducible refine (HRD.out _ _ [] place k1 HB0.out (by simp) HR0.out HK1.out.1 (by simpa using HK1.out.2.1)).mono ?_); rintro e w1 ⟨v1, rfl, ho1, hb1⟩; obtain ⟨A1, c1, rfl⟩ := ho1.slice; have hl1 : (([] : List (Int × Int)) ++ side B (o + 12 * place) k1).length = k1 := (by simp [side_len]); have HO1 := Lib.hid ho1; rw [hl1] at *; have HB1 : Hid (Below w.heap.size w w1) := Lib.hid (HB0.out.trans (hb1.mono (Nat.le_succ _))); have hs1 := hb1.size; simp at hs1; have hrw := HBX.out w1 hb1; have hrl := hrw.lt; have y0 := hrw.cell 0; have y1 := hrw.cell 1; have y2 := hrw.cell 2; have y3 := hrw.cell 3; have y4 := hrw.cell 4; have y5 := hrw.cell 5; have y6 := hrw.cell 6; have y7 := hrw.cell 7; simp only [List.getElem?_toArray, List.getElem?_cons_succ, List.getElem?_cons_zero] at y0 y1 y2 y3 y4 y5 y6 y7; clear hb1 ho1 hrw)
  | (go_at_call 100; (with_reducible refine (HRD2.out w1 _ _ k2 HB1.out (by omega) HO1.out (by omega) (by simp only [List.nil_append, side_len]; omega)).mono ?_); rintro e w2 ⟨v2, rfl, ho2, hb2⟩; obtain ⟨LL, hLL⟩ : ∃ LL, LL = ([] ++ side B (o + 12 * place) k1) ++ side B (o + 12 * 0) k2 := ⟨_, rfl⟩; rw [← hLL] at ho2; have HLL := Lib.hid hLL; clear hLL; obtain ⟨A2, c2, rfl⟩ := ho2.slice; have HO2 := Lib.hid ho2; have HB2 : Hid (Below w.heap.size w w2) := Lib.hid (HB1.out.trans (hb2.mono (Nat.le_succ _))); clear hb2 ho2)
 go_ret
 have hE : LG = LL := by rw [HLL.out, HLG.out]
 rw [hE]
 exact ⟨_, rfl, own_weak HO2.out (Nat.le_succ _), HB2.out⟩
end
section
open Go.RowKit Go.Sort
open Fx (Vl)
open Me
open Wp
theorem cells_rep (m : Nat) (v : Vl) : ∀ i, i < m * 2 → (cellsOf (List.replicate m v))[i]? = some (if i % 2 = 0 then .bool v.ok else .int .i64 v.n) := by
 induction m with
 | zero => intro i hi; omega
 | succ m ih =>
   intro i hi
   have e : cellsOf (List.replicate (m + 1) v) = .bool v.ok :: .int .i64 v.n :: cellsOf (List.replicate m v) := by
    rw [List.replicate_succ]; rfl
   rw [e]
   match i, hi with
   | 0, _ => rfl
   | 1, _ => rfl
   | i + 2, hi =>
     rw [List.getElem?_cons_succ, List.getElem?_cons_succ, ih i (by omega)]
     congr 2
     simp
theorem made_vals (m : Nat) : madeCells #[.bool false, .int .i64 0] (m * 2) = (cellsOf (List.replicate m Fx.none)).toArray := by
 apply Array.ext
 ·rw [size_madeCells]; simp [cellsOf_length]
 ·intro i h1 h2
  have hi : i < m * 2 := by rw [size_madeCells] at h1; exact h1
  have h := cells_rep m Fx.none i hi
  rw [List.getElem?_eq_getElem (by rw [cellsOf_length, List.length_replicate]; exact hi)] at h
  have e2 : (cellsOf (List.replicate m Fx.none)).toArray[i] = (if i % 2 = 0 then Value.bool Fx.none.ok else .int .i64 Fx.none.n) := by rw [List.getElem_toArray]; exact Option.some.inj h
  rw [e2]
  simp only [madeCells, Array.getElem_map, Array.getElem_range]
  by_cases e : i % 2 = 0
  ·rw [if_pos e]; simp [e]; rfl
  ·rw [if_neg e]
   have : i % 2 = 1 := by omega
   simp [this]; rfl
theorem cellsOf_set : ∀ (l : List Vl) (i : Nat) (v : Vl), i < l.length → ((cellsOf l).set (i * 2) (.bool v.ok)).set (i * 2 + 1) (.int .i64 v.n) = cellsOf (l.set i v)
 | [], _, _, h => by simp at h
 | x :: l, 0, v, _ => rfl
 | x :: l, i + 1, v, h => by
   have e : ∀ (y : Vl) (r : List Vl), cellsOf (y :: r) = .bool y.ok :: .int .i64 y.n :: cellsOf r := fun _ _ => rfl
   rw [List.set_cons_succ, e, e, ← cellsOf_set l i v (by simpa using h), show (i + 1) * 2 = i * 2 + 1 + 1 by omega]
   rfl
def ValsAt (w : World) (r : Nat) (l : List Vl) : Prop := RowAt w r 105 (cellsOf l).toArray
theorem ValsAt.put {w : World} {r : Nat} {l : List Vl} (h : ValsAt w r l) (i : Nat) (v : Vl) (hi : i < l.length) : ValsAt ((w.setCell ⟨r, i * 2, none⟩ (.bool v.ok)).setCell ⟨r, i * 2 + 1, none⟩ (.int .i64 v.n)) r (l.set i v) := by
 have h1 := (RowAt.set_ h (i * 2) (.bool v.ok)).set_ (i * 2 + 1) (.int .i64 v.n)
 unfold ValsAt
 rw [← cellsOf_set l i v hi]
 simpa using h1
theorem ValsAt.own {w : World} {r base : Nat} {l : List Vl} (h : ValsAt w r l) (hb : base ≤ r) (hm : l.length ≤ maxLen) : OwnV base w (.slice (some ⟨r, 0, none⟩) l.length l.length) l :=
 ⟨cellsOf_length l, .inr ⟨r, l.length, _, rfl, hb, h, Nat.le_refl _, hm, by simp [cellsOf_length], by rw [List.take_of_length_le (by simp [cellsOf_length])]⟩⟩
theorem ValsAt.cells {w : World} {r : Nat} {l : List Vl} (h : ValsAt w r l) (i : Nat) (hi : i < l.length) : (∃ a, w.cell? ⟨r, i * 2, none⟩ = some a) ∧ (∃ a, w.cell? ⟨r, i * 2 + 1, none⟩ = some a) ∧ w.frozen? ⟨r, i * 2, none⟩ = false ∧ w.frozen? ⟨r, i * 2 + 1, none⟩ = false ∧ r < w.heap.size := by
 have hl := cellsOf_length l
 refine ⟨⟨_, (RowAt.cell h (i * 2)).trans (Array.getElem?_eq_getElem (by simp; omega))⟩, ⟨_, (RowAt.cell h (i * 2 + 1)).trans (Array.getElem?_eq_getElem (by simp; omega))⟩, RowAt.frozen h _, RowAt.frozen h _, RowAt.lt h⟩
theorem own_at {t : TypeId} {base : Nat} {w : World} {A : Option Addr} {n c : Nat} {l : List (Int × Int)} (h : OwnP t base w (.slice A n c) l) (h0 : 0 < l.length) : ∃ g, A = some ⟨g, 0, none⟩ ∧ base ≤ g ∧ g < w.heap.size ∧ ∀ j, j < l.length → w.cell? ⟨g, j * 2, none⟩ = some (.int .i64 (l.getD j (0, 0)).1) ∧ w.cell? ⟨g, j * 2 + 1, none⟩ = some (.int .i64 (l.getD j (0, 0)).2) := by
 rcases h.2 with ⟨e, h1⟩ | ⟨g, cap, cur, e, hb, hg, hle, hm, hs, hx⟩
 ·omega
 ·injection e with e1 e2 e3
  refine ⟨g, e1, hb, (Array.getElem?_eq_some_iff.1 hg).1, fun j hj => ?_⟩
  have hcell : ∀ i, i < l.length * 2 → w.cell? ⟨g, i, none⟩ = (Wh.cellsA l)[i]? := fun i hi => by
   rw [cell_of_row w g i cur t (0, 0) hg, ← hx, List.getElem?_take_of_lt hi]
   simp
  have hA : ∀ (l : List (Int × Int)) (j : Nat), j < l.length → (Wh.cellsA l)[j * 2]? = some (.int .i64 (l.getD j (0, 0)).1) ∧ (Wh.cellsA l)[j * 2 + 1]? = some (.int .i64 (l.getD j (0, 0)).2) := by
   intro l
   induction l with
   | nil => intro j hj; simp at hj
   | cons x l ih =>
     intro j hj
     have ec : Wh.cellsA (x :: l) = .int .i64 x.1 :: .int .i64 x.2 :: Wh.cellsA l := rfl
     match j, hj with
     | 0, _ => exact ⟨rfl, rfl⟩
     | j + 1, hj =>
       obtain ⟨i1, i2⟩ := ih j (by simpa using hj)
       rw [ec, show (j + 1) * 2 = j * 2 + 1 + 1 by omega]
       exact ⟨i1, i2⟩
  obtain ⟨i1, i2⟩ := hA l j hj
  exact ⟨(hcell _ (by omega)).trans i1, (hcell _ (by omega)).trans i2⟩
namespace Wp
def told (s st : Int) (ps : List (Int × Int)) (n k : Nat) : List Vl := (List.range n).map fun j => if j < k then holds s st ps j else Fx.none
theorem told_len (s st : Int) (ps : List (Int × Int)) (n k : Nat) : (told s st ps n k).length = n := by unfold told; simp
theorem told_zero (s st : Int) (ps : List (Int × Int)) (n : Nat) : told s st ps n 0 = List.replicate n Fx.none := by
 unfold told
 apply List.ext_getElem
 ·simp
 ·intro i h1 h2; simp
theorem told_all (s st : Int) (ps : List (Int × Int)) (n : Nat) : told s st ps n n = held s st ps n := by
 unfold told held
 apply List.map_congr_left
 intro j hj
 rw [if_pos (List.mem_range.1 hj)]
theorem told_succ (s st : Int) (ps : List (Int × Int)) (n k : Nat) : told s st ps n (k + 1) = (told s st ps n k).set k (holds s st ps k) := by
 unfold told
 apply List.ext_getElem
 ·simp
 ·intro i h1 h2
  rw [List.getElem_set]
  simp only [List.getElem_map, List.getElem_range]
  by_cases e : k = i
  ·subst e; simp
  ·rw [if_neg e]
   by_cases h : i < k
   ·rw [if_pos h, if_pos (by omega)]
   ·rw [if_neg h, if_neg (by omega)]
theorem told_same {s st : Int} {ps : List (Int × Int)} {n k : Nat} (h : holds s st ps k = Fx.none) : told s st ps n (k + 1) = told s st ps n k := by
 unfold told
 apply List.map_congr_left
 intro j _
 by_cases e : j = k
 ·subst e; rw [if_pos (by omega), if_neg (by omega), h]
 ·by_cases h : j < k
  ·rw [if_pos h, if_pos (by omega)]
  ·rw [if_neg h, if_neg (by omega)]
end Wp
theorem values_any {w : World} {V : Nat → Prop} {c fs : Nat} {S : Vf.Sv} {n : List UInt8} {h : Hd} {B : List UInt8} {A : Option Addr} {cap : Nat} (ro : PO w V fs c S) (f : Fits S.now n h B) (ix : Nat) (hi : ix < h.l.length) (st : Int) (hst0 : 0 ≤ st) (hst1 : st ≤ 4611686018427387904) (m C P : Nat) (hC : h.cnt ix = (C : Int)) (hP : Sl.pl (h.step ix) (h.cnt ix) st = (P : Int)) (hm : m ≤ C) :
 Calls Tryz.prog 79 #[ringV h ix A cap fs n, .int .i64 st, .int .i64 (m : Int)] w fun e w' => ∃ v, e = .returned v ∧ OwnV w.heap.size w' v (held (h.step ix) st (round B (h.offs (ix : Int)).toNat C P m) m) ∧ Below w.heap.size w w' := by
 have hcb := cnt_bd f.val ix hi
 obtain ⟨⟨n1, n2⟩, n3, n4⟩ := Hd.nums f.val ix hi
 have hPC : P < C := by have := Sl.pl_bd n1 n3 hst0; omega
 have HPT : Hid (∀ W, Below w.heap.size w W → w.heap.size + 2 ≤ W.heap.size → Calls Tryz.prog 66 #[ringV h ix A cap fs n, .int .i64 (P : Int), .int .i64 (m : Int)] W fun e w' => ∃ v, e = .returned v ∧ OwnP 54 (w.heap.size + 2) w' v (round B (h.offs (ix : Int)).toNat C P m) ∧ Below W.heap.size W w') := Lib.hid fun W hb hs => (points_any (ro.below hb) f ix hi P m C hC hPC hm).mono fun e w' ⟨v, he, ho, hbb⟩ => ⟨v, he, own_weak ho hs, hbb⟩
 have HPL : Hid (∀ W, Calls Tryz.prog 107 #[.agg #[.int .i64 (h.step ix), .int .i64 (h.cnt ix)], .int .i64 st] W fun e w' => e = .returned (.int .i64 (P : Int)) ∧ Below W.heap.size W w') := Lib.hid fun W => by
  have h := place_any (h.step ix) (h.cnt ix) st (by omega) W
  rw [hP] at h
  exact h
 obtain ⟨i0, hi0, hz0, hz1, hz2⟩ := info_parts infoVal
 have hmk : ∀ W : World, (Instr.makeSlice 86 (.int .i64 (m : Int)) (.int .i64 (m : Int))).run Tryz.prog W = .ok (.slice (some ⟨W.heap.size, 0, none⟩) m m) (W.alloc (.cells (cellsOf (List.replicate m Fx.none)).toArray 105)) := fun W => by
  have h := run_make (P := Tryz.prog) W 86 105 i0 (.agg #[.bool false, .int .i64 0]) Tryz.underlying86 hi0 hz0 .i64 .i64 (m : Int) (m : Int) (by omega) (by omega) (by rw [hz2]; omega) (by omega)
  have e : (Value.agg #[.bool false, .int .i64 0]).cells = #[.bool false, .int .i64 0] := by simp [Value.cells]
  rw [hz1, Int.toNat_natCast, e, made_vals] at h
  exact h
 have hmb : m ≤ 87381 := by omega
 have HPLN : Hid ((round B (h.offs (ix : Int)).toNat C P m).length = m) := Lib.hid (round_len _ _ _ _ _)
 clear hi0 hz0 hz1 hz2 ro f hP hC hPC
 unfold ringV at *
 have hsb : 1 ≤ h.step ix ∧ h.step ix ≤ 16777216 := ⟨n1, n2⟩
 clear n1 n2 n3 n4 hcb hi
 generalize round B (h.offs (ix : Int)).toNat C P m = ps at *
 generalize h.step ix = s at *
 generalize h.cnt ix = k at *
 generalize h.offs (ix : Int) = of_ at *
 generalize h.l.length = hln at *
 generalize h.ag = ag at *
 generalize h.xf = xf at *
 generalize (⟨n.toArray⟩ : ByteArray) = nb at *
 obtain ⟨X, hXe⟩ : ∃ X, X = (w.alloc (.cells #[.int .i64 s, .int .i64 k, .int .i64 ag, .int .i64 xf, .slice A hln cap, .pointer (some ⟨fs, 0, none⟩), .string nb, .int .i64 of_] 137)).alloc (.cells (cellsOf (List.replicate m Fx.none)).toArray 105) := ⟨_, rfl⟩
 have HX : Hid (Below w.heap.size w X) := Lib.hid (by rw [hXe]; exact ((Below.refl _ _).alloc (Nat.le_refl _) _).alloc (by simp) _)
 have HXS : Hid (w.heap.size + 2 ≤ X.heap.size) := Lib.hid (by rw [hXe]; simp)
 obtain ⟨p, hp⟩ : ∃ p, p = w.heap.size := ⟨_, rfl⟩
 obtain ⟨r, hr⟩ : ∃ r, r = w.heap.size + 1 := ⟨_, rfl⟩
 have HPR : Hid (p = w.heap.size ∧ r = w.heap.size + 1) := Lib.hid ⟨hp, hr⟩
 have HV0 : Hid (ValsAt X r (told s st ps m 0)) := Lib.hid (by rw [told_zero, hXe, hr]; exact RowAt.new' (by simp))
 have HRW : Hid (RowAt X p 137 #[.int .i64 s, .int .i64 k, .int .i64 ag, .int .i64 xf, .slice A hln cap, .pointer (some ⟨fs, 0, none⟩), .string nb, .int .i64 of_]) := Lib.hid (by rw [hXe, hp]; exact (RowAt.new w _ _).alloc _)
 have HF : Hid (∀ W, Below X.heap.size X W → W.cell? ⟨p, 0, none⟩ = some (.int .i64 s) ∧ W.cell? ⟨p, 1, none⟩ = some (.int .i64 k) ∧ W.cell? ⟨p, 2, none⟩ = some (.int .i64 ag) ∧ W.cell? ⟨p, 3, none⟩ = some (.int .i64 xf) ∧ W.cell? ⟨p, 4, none⟩ = some (.slice A hln cap) ∧ W.cell? ⟨p, 5, none⟩ = some (.pointer (some ⟨fs, 0, none⟩)) ∧ W.cell? ⟨p, 6, none⟩ = some (.string nb) ∧ W.cell? ⟨p, 7, none⟩ = some (.int .i64 of_)) := Lib.hid fun W hb => by
  have k1 := HRW.out.below hb HRW.out.lt
  exact ⟨k1.cell 0, k1.cell 1, k1.cell 2, k1.cell 3, k1.cell 4, k1.cell 5, k1.cell 6, k1.cell 7⟩
 have HXE := Lib.hid hXe
 clear hXe hp hr
 go_enter Tryz.func79, Tryz.ntmps79
 go_wp2_with fail
 rw [← HXE.out, ← HPR.out.2, ← HPR.out.1]
 clear HXE hmk
 refine Inv.region (fun W W' => Below W.heap.size W W') (fun i v W => match i with
  | 0 => v = .agg #[.int .i64 s, .int .i64 k, .int .i64 ag, .int .i64 xf, .slice A hln cap, .pointer (some ⟨fs, 0, none⟩), .string nb, .int .i64 of_]
  | 1 => v = .pointer (some ⟨p, 0, none⟩)
  | 2 => v = .agg #[.int .i64 s, .int .i64 k]
  | 3 => v = .int .i64 st
  | 4 => v = .int .i64 (P : Int)
  | 5 => v = .int .i64 (m : Int)
  | 6 => OwnP 54 (w.heap.size + 2) W v ps
  | 7 => v = .int .i64 (m : Int)
  | 8 => v = (.int .i64 0)
  | _ => True) (by kernel_rfl) (by kernel_rfl) (by kernel_rfl) (fun W => Below.refl _ _) (fun a b c h k => h.trans (k.mono h.size)) (fun i v W W' h he => ?stab) ?obls ?fin
 case stab =>
  match i, h with
  | 0, h => exact h
  | 1, h => exact h
  | 2, h => exact h
  | 3, h => exact h
  | 4, h => exact h
  | 5, h => exact h
  | 6, h => exact OwnP.below h (by simpa using ⟨he.os, he.tape, he.output, he.size, he.block⟩)
  | 7, h => exact h
  | 8, h => exact h
  | _ + 9, h => exact h
 case obls =>
  refine .cons ?_ (.cons ?_ (.cons ?_ (.cons ?_ (.cons ?_ (.cons ?_ (.cons ?_ (.cons ?_ (.cons ?_ .nil))))))))
  ·intro ac wx hE hf hd
   have hB : Below X.heap.size X wx := ⟨hE.1,hE.2,hE.3,hE.4,hE.5⟩
   rw [if_pos (Inv.want0 rfl _)]
   have h3 : ac.eval (.tmp 3) = .pointer (some ⟨p, 0, none⟩) := hf 3 (by kernel_rfl)
   clear hf hd
   obtain ⟨a0, a1, a2, a3, a4, a5, a6, a7⟩ := HF.out wx hB
   refine Inv.val (.agg #[.int .i64 s, .int .i64 k, .int .i64 ag, .int .i64 xf, .slice A hln cap, .pointer (some ⟨fs, 0, none⟩), .string nb, .int .i64 of_]) ?_ rfl rfl (Below.refl _ _)
   clear hE hB HF HPL HPT
   generalize ac.eval = ev at *
   simp [execOp, go_sem, *]
  ·intro ac wx hE hf hd
   have hB : Below X.heap.size X wx := ⟨hE.1,hE.2,hE.3,hE.4,hE.5⟩
   rw [if_pos (Inv.want0 rfl _)]
   have h3 : ac.eval (.tmp 3) = .pointer (some ⟨p, 0, none⟩) := hf 3 (by kernel_rfl)
   clear hf hd
   refine Inv.val (.pointer (some ⟨p, 0, none⟩)) ?_ rfl rfl (Below.refl _ _)
   clear hE hB HF HPL HPT
   generalize ac.eval = ev at *
   simp [execOp, go_sem, *]
  ·intro ac wx hE hf hd
   have hB : Below X.heap.size X wx := ⟨hE.1,hE.2,hE.3,hE.4,hE.5⟩
   rw [if_pos (Inv.want0 rfl _)]
   have h13 := hd 1 _ (by kernel_rfl) rfl
   change ac.eval (.tmp 13) = .pointer (some ⟨p, 0, none⟩) at h13
   clear hf hd
   obtain ⟨a0, a1, a2, a3, a4, a5, a6, a7⟩ := HF.out wx hB
   refine Inv.val (.agg #[.int .i64 s, .int .i64 k]) ?_ rfl rfl (Below.refl _ _)
   clear hE hB HF HPL HPT
   generalize ac.eval = ev at *
   simp [execOp, go_sem, *]
  ·intro ac wx hE hf hd
   have hB : Below X.heap.size X wx := ⟨hE.1,hE.2,hE.3,hE.4,hE.5⟩
   rw [if_pos (Inv.want0 rfl _)]
   have h1 : ac.eval (.tmp 1) = .int .i64 st := hf 1 (by kernel_rfl)
   clear hf hd
   refine Inv.val (.int .i64 st) ?_ rfl rfl (Below.refl _ _)
   clear hE hB
   generalize ac.eval = ev at *
   simp [execOp, go_sem, *]
  ·intro ac wx hE hf hd
   have hB : Below X.heap.size X wx := ⟨hE.1,hE.2,hE.3,hE.4,hE.5⟩
   rw [if_pos (Inv.want0 rfl _)]
   have h14 := hd 2 _ (by kernel_rfl) rfl
   change ac.eval (.tmp 14) = .agg #[.int .i64 s, .int .i64 k] at h14
   have h15 := hd 3 _ (by kernel_rfl) rfl
   change ac.eval (.tmp 15) = .int .i64 st at h15
   clear hf hd
   refine Inv.go (f := 107) (xs := #[.agg #[.int .i64 s, .int .i64 k], .int .i64 st]) ?_ rfl ?_
   ·clear hE hB HF HPL HPT
    have hfn : ac.eval (.func 107) = .func (.func 107) #[] #[] := rfl
    generalize ac.eval = ev at *
    simp [execOp, go_sem, *]
   ·exact (HPL.out wx).mono fun e w' ⟨he, hb⟩ => ⟨_, he, rfl, hb⟩
  ·intro ac wx hE hf hd
   have hB : Below X.heap.size X wx := ⟨hE.1,hE.2,hE.3,hE.4,hE.5⟩
   rw [if_pos (Inv.want0 rfl _)]
   have h2 : ac.eval (.tmp 2) = .int .i64 (m : Int) := hf 2 (by kernel_rfl)
   clear hf hd
   refine Inv.val (.int .i64 (m : Int)) ?_ rfl rfl (Below.refl _ _)
   clear hE hB
   generalize ac.eval = ev at *
   simp [execOp, go_sem, *]
  ·intro ac wx hE hf hd
   have hB : Below X.heap.size X wx := ⟨hE.1,hE.2,hE.3,hE.4,hE.5⟩
   rw [if_pos (Inv.want0 rfl _)]
   have h12 := hd 0 _ (by kernel_rfl) rfl
   change ac.eval (.tmp 12) = .agg #[.int .i64 s, .int .i64 k, .int .i64 ag, .int .i64 xf, .slice A hln cap, .pointer (some ⟨fs, 0, none⟩), .string nb, .int .i64 of_] at h12
   have h16 := hd 4 _ (by kernel_rfl) rfl
   change (fun v W => v = .int .i64 (P : Int)) (ac.eval (.tmp 16)) wx at h16
   try dsimp only at h16
   have h17 := hd 5 _ (by kernel_rfl) rfl
   change ac.eval (.tmp 17) = .int .i64 (m : Int) at h17
   clear hf hd
   refine Inv.go (f := 66) (xs := #[.agg #[.int .i64 s, .int .i64 k, .int .i64 ag, .int .i64 xf, .slice A hln cap, .pointer (some ⟨fs, 0, none⟩), .string nb, .int .i64 of_], .int .i64 (P : Int), .int .i64 (m : Int)]) ?_ rfl ?_
   ·clear hE hB HF HPL HPT
    have hfn : ac.eval (.func 66) = .func (.func 66) #[] #[] := rfl
    generalize ac.eval = ev at *
    simp [execOp, go_sem, *]
   ·exact (HPT.out wx (HX.out.trans (hB.mono HX.out.size)) (Nat.le_trans HXS.out hB.size)).mono fun e w' ⟨u, he, ho, hb⟩ => ⟨u, he, ho, hb⟩
  ·intro ac wx hE hf hd
   have hB : Below X.heap.size X wx := ⟨hE.1,hE.2,hE.3,hE.4,hE.5⟩
   rw [if_pos (Inv.want0 rfl _)]
   have h18 := hd 6 _ (by kernel_rfl) rfl
   change (fun v W => OwnP 54 (w.heap.size + 2) W v ps) (ac.eval (.tmp 18)) wx at h18
   try dsimp only at h18
   clear hf hd
   obtain ⟨u18, hu18⟩ : ∃ u, u = ac.eval (.tmp 18) := ⟨_, rfl⟩
   rw [← hu18] at h18
   obtain ⟨A18, c18, hq18⟩ := h18.slice
   rw [HPLN.out] at hq18
   have h18' : ac.eval (.tmp 18) = .slice A18 m c18 := by rw [← hu18]; exact hq18
   refine Inv.val (.int .i64 (m : Int)) ?_ rfl rfl (Below.refl _ _)
   clear hE hB HF HPL HPT h18 hu18 hq18
   generalize ac.eval = ev at *
   simp [go_sem, *]
  ·intro ac wx hE hf hd
   have hB : Below X.heap.size X wx := ⟨hE.1,hE.2,hE.3,hE.4,hE.5⟩
   rw [if_pos (Inv.want0 rfl _)]
   clear hf hd
   refine Inv.val ((.int .i64 0)) ?_ rfl rfl (Below.refl _ _)
   clear hE hB
   have hcst : ∀ v, ac.eval (.const v) = v := fun _ => rfl
   generalize ac.eval = ev at *
   simp [execOp, go_sem, *]
 case fin =>
  intro ac wx hE ha hall
  have hB : Below X.heap.size X wx := ⟨hE.1,hE.2,hE.3,hE.4,hE.5⟩
  have h12 := hall 0 _ rfl
  change ac.eval (.tmp 12) = .agg #[.int .i64 s, .int .i64 k, .int .i64 ag, .int .i64 xf, .slice A hln cap, .pointer (some ⟨fs, 0, none⟩), .string nb, .int .i64 of_] at h12
  have h13 := hall 1 _ rfl
  change ac.eval (.tmp 13) = .pointer (some ⟨p, 0, none⟩) at h13
  have h14 := hall 2 _ rfl
  change ac.eval (.tmp 14) = .agg #[.int .i64 s, .int .i64 k] at h14
  have h15 := hall 3 _ rfl
  change ac.eval (.tmp 15) = .int .i64 st at h15
  have h16 := hall 4 _ rfl
  change (fun v W => v = .int .i64 (P : Int)) (ac.eval (.tmp 16)) wx at h16
  try dsimp only at h16
  generalize hv16 : ac.eval (.tmp 16) = v16 at *
  have h17 := hall 5 _ rfl
  change ac.eval (.tmp 17) = .int .i64 (m : Int) at h17
  have h18 := hall 6 _ rfl
  change (fun v W => OwnP 54 (w.heap.size + 2) W v ps) (ac.eval (.tmp 18)) wx at h18
  try dsimp only at h18
  generalize hv18 : ac.eval (.tmp 18) = v18 at *
  have h19 := hall 7 _ rfl
  change ac.eval (.tmp 19) = .int .i64 (m : Int) at h19
  have h20 := hall 8 _ rfl
  change ac.eval (.tmp 20) = (.int .i64 0) at h20
  simp only [List.foldl, Inv.slot, Act.put] at ha
  change ac.tmps.getD 12 undef = _ at h12
  change ac.tmps.getD 13 undef = _ at h13
  change ac.tmps.getD 14 undef = _ at h14
  change ac.tmps.getD 15 undef = _ at h15
  change ac.tmps.getD 16 undef = _ at hv16
  change ac.tmps.getD 17 undef = _ at h17
  change ac.tmps.getD 18 undef = _ at hv18
  change ac.tmps.getD 19 undef = _ at h19
  change ac.tmps.getD 20 undef = _ at h20
  simp only [h12, h13, h14, h15, hv16, h17, hv18, h19, h20, List.setIfInBounds_toArray, List.set_cons_zero, List.set_cons_succ] at ha
  clear h12 h13 h14 h15 hv16 h17 hv18 h19 h20 hall hE
  subst ha
  subst h16
  obtain ⟨A18, c18, rfl⟩ := h18.slice
  have HPS := Lib.hid h18
  have HBX := Lib.hid hB
  have HXW : Hid (Below w.heap.size w wx) := Lib.hid (HX.out.trans (hB.mono HX.out.size))
  have hxs : w.heap.size + 2 ≤ wx.heap.size := Nat.le_trans HXS.out hB.size
  have hrlt : r < X.heap.size := by have := HPR.out.2; have := HXS.out; omega
  have HVX : Hid (ValsAt wx r (told s st ps m 0)) := Lib.hid (HV0.out.below hB hrlt)
  have HRX := Lib.hid (HRW.out.below hB HRW.out.lt)
  rw [HPLN.out]
  clear h18 hB HF HPL HPT HV0 HRW hrlt
  have HN : Hid (p ≠ r ∧ w.heap.size ≤ r ∧ r < wx.heap.size ∧ p < wx.heap.size) := Lib.hid (by have := HPR.out; omega)
  go_wp2_with fail
  go_loopw [8, 9, 20] (fun _ _ u wr => ∃ kk : Nat, kk ≤ m ∧ u = .int .i64 kk ∧ Hid (ValsAt wr r (told s st ps m kk)) ∧ Hid (Below w.heap.size w wr) ∧ Hid (wx.heap.size ≤ wr.heap.size ∧ ∀ b, b ≠ r → b < wx.heap.size → wr.heap[b]? = wx.heap[b]?)) (fun _ _ u _ => m - (intOf u).toNat)
  case atStart => exact ⟨0, Nat.zero_le _, rfl, HVX, HXW, Lib.hid ⟨Nat.le_refl _, fun _ _ _ => rfl⟩⟩
  case round =>
   obtain ⟨kk, hkk, rfl, HVk, HBk, HKk⟩ := hrel
   by_cases hlt : kk < m
   ·have hkI : (kk : Int) < (m : Int) := by omega
    have hk0 : (0 : Int) ≤ (kk : Int) := by omega
    have hplen : kk < ps.length := by rw [HPLN.out]; exact hlt
    obtain ⟨g, rfl, hg1, hg2, hgc⟩ := own_at HPS.out (by rw [HPLN.out]; omega)
    obtain ⟨c1, c2⟩ := hgc kk hplen
    have hgr : g ≠ r := by have := HPR.out; omega
    have d1 : wr.cell? ⟨g, kk * 2, none⟩ = some (.int .i64 (ps.getD kk (0, 0)).1) := (World.cell?_of_block (HKk.out.2 g hgr hg2)).trans c1
    have d2 : wr.cell? ⟨g, kk * 2 + 1, none⟩ = some (.int .i64 (ps.getD kk (0, 0)).2) := (World.cell?_of_block (HKk.out.2 g hgr hg2)).trans c2
    have hgw : g < wr.heap.size := Nat.lt_of_lt_of_le hg2 HKk.out.1
    have hpr : RowAt wr p 137 #[.int .i64 s, .int .i64 k, .int .i64 ag, .int .i64 xf, .slice A hln cap, .pointer (some ⟨fs, 0, none⟩), .string nb, .int .i64 of_] := (HKk.out.2 p HN.out.1 HN.out.2.2.2).trans HRX.out
    have e0 : wr.cell? ⟨p, 0, none⟩ = some (.int .i64 s) := hpr.cell 0
    have hpl := hpr.lt
    have HH : Hid (∀ b : Bool, b = decide ((ps.getD kk (0, 0)).1 > 0 ∧ (ps.getD kk (0, 0)).1 = st + (kk : Int) * s) → holds s st ps kk = if b = true then Fx.of (ps.getD kk (0, 0)).2 else Fx.none) := Lib.hid fun b hb => by
     unfold holds
     dsimp only
     by_cases e : (ps.getD kk (0, 0)).1 > 0 ∧ (ps.getD kk (0, 0)).1 = st + (kk : Int) * s
     ·rw [if_pos e, if_pos (by rw [hb]; simpa using e)]
     ·rw [if_neg e, if_neg (by rw [hb]; simpa using e)]
    have HTS := Lib.hid (told_succ s st ps m kk)
    have HTM := Lib.hid (told_same (s := s) (st := st) (ps := ps) (n := m) (k := kk))
    have HTL := Lib.hid (told_len s st ps m kk)
    generalize holds s st ps kk = hv at *
    generalize ps.getD kk (0, 0) = pt at *
    obtain ⟨pa, pn⟩ := pt
    dsimp only at d1 d2 HH
    clear hpr c1 c2 hgc
    have h1 : (kk : Int) * s ≤ 87381 * 16777216 := Int.mul_le_mul (by omega) (by omega) (by omega) (by omega)
    have h2 : 0 ≤ (kk : Int) * s := Int.mul_nonneg (by omega) (by omega)
    obtain ⟨mm, hmm⟩ : ∃ mm, (kk : Int) * s = mm := ⟨_, rfl⟩
    rw [hmm] at h1 h2 HH
    obtain ⟨tt, htt⟩ : ∃ tt, st + mm = tt := ⟨_, rfl⟩
    rw [htt] at HH
    have hwm : IntKind.i64.wrap mm = mm := IntWalk.i64_in _ (by omega)
    have hwt : IntKind.i64.wrap tt = tt := IntWalk.i64_in _ (by omega)
    have HOF : Hid (∀ W, Calls Tryz.prog 91 #[.int .i64 pn] W fun e w' => e = .returned (.agg #[.bool (Fx.of pn).ok, .int .i64 (Fx.of pn).n]) ∧ Below W.heap.size W w') := Lib.hid fun W => of_any pn W
    by_cases hp0 : pa > 0
    ·by_cases hpt : pa = tt
     ·have HHV : Hid (hv = Fx.of pn) := Lib.hid (by rw [HH.out true (by rw [eq_comm]; exact decide_eq_true ⟨hp0, hpt⟩), if_pos rfl])
      have hptb : (pa == tt) = true := by simpa using hpt
      clear HH hpt
      generalize Fx.of pn = ov at *
      obtain ⟨oo, on⟩ := ov
      go_wp2_with (go_at_call 91; (with_reducible refine (HOF.out _).mono ?_); rintro e w5 ⟨rfl, hb5⟩; have hB5 : Below wr.heap.size wr w5 := below_via hb5 Bq; have hs5 := hB5.size; have hv5 : ValsAt w5 r (told s st ps m kk) := RowAt.below HVk.out hB5 (Nat.lt_of_lt_of_le HN.out.2.2.1 HKk.out.1); obtain ⟨⟨x0, y0⟩, ⟨x1, y1⟩, y2, y3, y4⟩ := hv5.cells kk (by rw [HTL.out]; exact hlt); have HB5 := Lib.hid hB5; have HV5 := Lib.hid hv5; clear hb5 hB5 hv5)
      go_roundw
      case rel => exact ⟨kk + 1, by omega, by go_num, Lib.hid (by rw [HTS.out, HHV.out]; exact HV5.out.put kk ⟨oo, on⟩ (by rw [HTL.out]; exact hlt)), Lib.hid (((HBk.out.trans (HB5.out.mono HBk.out.size)).setCell HN.out.2.1 _).setCell HN.out.2.1 _), Lib.hid ⟨by have := HKk.out.1; simp [World.setCell]; omega, fun b hb1 hb2 => (Below.heap_setCell _ _ _ _ hb1).trans ((Below.heap_setCell _ _ _ _ hb1).trans ((HB5.out.block b (Nat.lt_of_lt_of_le hb2 HKk.out.1)).trans (HKk.out.2 b hb1 hb2)))⟩⟩
      case measure => simp [intOf]; omega
     ·have HHV : Hid (hv = Fx.none) := Lib.hid (by rw [HH.out false (by simp [hpt]), if_neg (by simp)])
      have hptb : (pa == tt) = false := by simpa using hpt
      clear HH hpt
      go_wp2_with fail
      go_roundw
      case rel => exact ⟨kk + 1, by omega, by go_num, Lib.hid (by rw [HTM.out HHV.out]; exact RowAt.alloc HVk.out _), Lib.hid (HBk.out.alloc HBk.out.size _), Lib.hid ⟨by have := HKk.out.1; simp; omega, fun b hb1 hb2 => (Below.heap_alloc _ _ _ (Nat.lt_of_lt_of_le hb2 HKk.out.1)).trans (HKk.out.2 b hb1 hb2)⟩⟩
      case measure => simp [intOf]; omega
    ·have HHV : Hid (hv = Fx.none) := Lib.hid (by rw [HH.out false (by simp [hp0]), if_neg (by simp)])
     have hp1 : ¬ (0 : Int) < pa := by omega
     clear HH hp0
     go_wp2_with fail
     go_roundw
     case rel => exact ⟨kk + 1, by omega, by go_num, Lib.hid (by rw [HTM.out HHV.out]; exact RowAt.alloc HVk.out _), Lib.hid (HBk.out.alloc HBk.out.size _), Lib.hid ⟨by have := HKk.out.1; simp; omega, fun b hb1 hb2 => (Below.heap_alloc _ _ _ (Nat.lt_of_lt_of_le hb2 HKk.out.1)).trans (HKk.out.2 b hb1 hb2)⟩⟩
     case measure => simp [intOf]; omega
   ·have hkm : kk = m := by omega
    have hkI : ¬ (kk : Int) < (m : Int) := by omega
    have HE : Hid (OwnV w.heap.size wr (.slice (some ⟨r, 0, none⟩) m m) (held s st ps m)) := Lib.hid (by
     have h := HVk.out
     rw [hkm, told_all] at h
     have h2 := ValsAt.own (base := w.heap.size) h HN.out.2.1 (by rw [held_len]; unfold maxLen; omega)
     rw [held_len] at h2
     exact h2)
    go_wp2_with fail
    go_ret
    exact ⟨_, rfl, HE.out, HBk.out⟩
end
end Go.Proofs.YtbakngbmfgnmcaaGreatDoor
