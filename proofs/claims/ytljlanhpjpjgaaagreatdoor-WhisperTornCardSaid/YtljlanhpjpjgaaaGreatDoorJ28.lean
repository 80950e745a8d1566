/- WtTear WtLeft WqIx -/
import Derived.Test.YtljlanhpjpjgaaaGreatDoorJ1
import Derived.Test.YtljlanhpjpjgaaaGreatDoorJ27
import Derived.Test.YtljlanhpjpjgaaaGreatDoorJ26
import Derived.Test.YtljlanhpjpjgaaaGreatDoorJ6
import Derived.Test.YtljlanhpjpjgaaaGreatDoorJ10
namespace Go.Proofs.YtljlanhpjpjgaaaGreatDoor
set_option maxRecDepth 100000
set_option maxHeartbeats 8000000
section
open Go.RowKit
open Fx (Vl)
open Vf (Has upd OnWay)
namespace Wp
def laid (S : Vf.Sv) (n : List UInt8) (o : Nat) (p : Int × Int) : Vf.Sv :=
 (Vf.write (Vf.write (Vf.write S n (o : Int) [0, 0, 0, 0]).1 n ((o : Int) + 4) (Sl.beb p.2 8)).1 n (o : Int) (Sl.beb (Sl.lim p.1) 4)).1
def tw (B : List UInt8) (o : Nat) : List UInt8 := (B.drop o).take 12
def tear (n O N : List UInt8) (a : Nat) : Nat → Vf.Sv → Vf.Sv
 | 0, S => S
 | j + 1, S => if tw N (a + 12 * j) = tw O (a + 12 * j) then tear n O N a j S else laid (tear n O N a j S) n (a + 12 * j) (slot N (a + 12 * j))
theorem tw_len {B : List UInt8} {o : Nat} (h : o + 12 ≤ B.length) : (tw B o).length = 12 := by unfold tw; rw [List.length_take, List.length_drop]; omega
theorem slot_tw (B : List UInt8) (o : Nat) : slot B o = pt (tw B o) := rfl
theorem tw_mid {X Y Z : List UInt8} (h : Y.length = 12) : tw (X ++ (Y ++ Z)) X.length = Y := by
 unfold tw
 rw [List.drop_left, List.take_append_of_le_length (by omega), List.take_of_length_le (by omega)]
theorem tw_else {X Y Y' Z : List UInt8} (h : Y.length = 12) (h' : Y'.length = 12) {o : Nat} (ho : o + 12 ≤ X.length ∨ X.length + 12 ≤ o) : tw (X ++ (Y' ++ Z)) o = tw (X ++ (Y ++ Z)) o := by
 unfold tw
 rcases ho with h1 | h1
 ·rw [List.drop_append_of_le_length (by omega), List.drop_append_of_le_length (by omega), List.take_append_of_le_length (by rw [List.length_drop]; omega), List.take_append_of_le_length (by rw [List.length_drop]; omega)]
 ·have e1 : (X ++ (Y' ++ Z)).drop o = Z.drop (o - (X.length + 12)) := by
   rw [← List.append_assoc, List.drop_append (l₁ := X ++ Y'), List.drop_of_length_le (by rw [List.length_append]; omega), List.length_append, h', List.nil_append]
  have e2 : (X ++ (Y ++ Z)).drop o = Z.drop (o - (X.length + 12)) := by
   rw [← List.append_assoc, List.drop_append (l₁ := X ++ Y), List.drop_of_length_le (by rw [List.length_append]; omega), List.length_append, h, List.nil_append]
  rw [e1, e2]
theorem upd_in {X Y Z p : List UInt8} {i : Nat} (h : i + p.length ≤ Y.length) : upd (X ++ (Y ++ Z)) (X.length + i) p = X ++ (upd Y i p ++ Z) := by
 unfold upd
 rw [List.take_append, List.take_of_length_le (by omega), Nat.add_sub_cancel_left, List.take_append_of_le_length (by omega)]
 rw [List.drop_append, List.drop_of_length_le (by omega), List.nil_append, Nat.add_assoc, Nat.add_sub_cancel_left, List.drop_append_of_le_length (by omega)]
 simp only [List.append_assoc]
structure OkAll (a : Nat) (O N B : List UInt8) : Prop where
 len : B.length = O.length
 head : B.take a = O.take a
 slots : ∀ k, a + 12 * k + 12 ≤ O.length → Gone (tw O (a + 12 * k)) (tw N (a + 12 * k)) (tw B (a + 12 * k))
structure Jth (a : Nat) (O N : List UInt8) (j : Nat) (B : List UInt8) : Prop where
 len : B.length = O.length
 head : B.take a = O.take a
 done : ∀ k, k < j → a + 12 * k + 12 ≤ O.length → pt (tw B (a + 12 * k)) = pt (tw N (a + 12 * k))
 rest : ∀ k, j ≤ k → a + 12 * k + 12 ≤ O.length → tw B (a + 12 * k) = tw O (a + 12 * k)
theorem Jth.ok {a : Nat} {O N : List UInt8} {j : Nat} {B : List UInt8} (h : Jth a O N j B) : OkAll a O N B := ⟨h.len, h.head, fun k hk => by
 rcases Nat.lt_or_ge k j with e | e
 ·exact .inr (.inl (h.done k e hk))
 ·exact .inl (by rw [h.rest k e hk])⟩
theorem Jth.mid {a : Nat} {O N : List UInt8} {j : Nat} {X Y Z Y' : List UInt8} (h : Jth a O N j (X ++ (Y ++ Z))) (hX : X.length = a + 12 * j) (hY : Y.length = 12) (hY' : Y'.length = 12) (hr : a + 12 * j + 12 ≤ O.length) (hg : Gone (tw O (a + 12 * j)) (tw N (a + 12 * j)) Y') : OkAll a O N (X ++ (Y' ++ Z)) := by
 have h0 := h.ok
 refine ⟨?_, ?_, fun k hk => ?_⟩
 ·rw [← h.len]; simp only [List.length_append, hY, hY']
 ·rw [← h.head, List.take_append_of_le_length (by omega), List.take_append_of_le_length (by omega)]
 ·by_cases e : k = j
  ·subst e
   have e1 := tw_mid (X := X) (Y := Y') (Z := Z) hY'
   rw [hX] at e1
   rw [e1]
   exact hg
  ·rw [tw_else hY hY' (by omega)]
   exact h0.slots k hk
theorem Jth.next {a : Nat} {O N : List UInt8} {j : Nat} {X Y Z Y' : List UInt8} (h : Jth a O N j (X ++ (Y ++ Z))) (hX : X.length = a + 12 * j) (hY : Y.length = 12) (hY' : Y'.length = 12) (hg : pt Y' = pt (tw N (a + 12 * j))) : Jth a O N (j + 1) (X ++ (Y' ++ Z)) := by
 refine ⟨?_, ?_, fun k hk hr => ?_, fun k hk hr => ?_⟩
 ·rw [← h.len]; simp only [List.length_append, hY, hY']
 ·rw [← h.head, List.take_append_of_le_length (by omega), List.take_append_of_le_length (by omega)]
 ·by_cases e : k = j
  ·subst e
   have e1 := tw_mid (X := X) (Y := Y') (Z := Z) hY'
   rw [hX] at e1
   rw [e1]
   exact hg
  ·rw [tw_else hY hY' (by omega)]
   exact h.done k (by omega) hr
 ·rw [tw_else hY hY' (by omega)]
  exact h.rest k (by omega) hr
theorem pt_bd (x : List UInt8) (h : x.length = 12) : 0 ≤ (pt x).1 ∧ (pt x).1 ≤ 4294967295 ∧ -9223372036854775808 ≤ (pt x).2 ∧ (pt x).2 ≤ 9223372036854775807 := by
 have h2 : (pt x).2 = Sl.dn x := by unfold pt Sl.dnn; rw [if_pos h]
 have h3 := Sl.dn_bd x
 rw [h2]
 obtain ⟨c0, c1, c2, c3, c4, c5, c6, c7, c8, c9, c10, c11, rfl⟩ := Sl.twelve h
 have b0 := Sl.u8_bd c0
 have b1 := Sl.u8_bd c1
 have b2 := Sl.u8_bd c2
 have b3 := Sl.u8_bd c3
 have e1 : (pt [c0, c1, c2, c3, c4, c5, c6, c7, c8, c9, c10, c11]).1 = ((c0.toNat : Int) * 16777216 + c1.toNat * 65536 + c2.toNat * 256 + c3.toNat) := rfl
 rw [e1]
 omega
theorem pt_enc {p : Int × Int} (h : 0 ≤ p.1 ∧ p.1 ≤ 4294967295 ∧ -9223372036854775808 ≤ p.2 ∧ p.2 ≤ 9223372036854775807) : pt (Sl.enc p.1 p.2) = p := by
 have hE := Sl.enc_len p.1 p.2
 unfold pt Sl.dat Sl.dnn
 rw [if_pos hE, if_pos hE, Sl.back_at, Sl.back_n _ _ h.2.2.1 h.2.2.2]
 unfold Sl.lim
 rw [show min (max p.1 0) 4294967295 = p.1 by omega]
theorem enc_full {Y F : List UInt8} (hY : Y.length = 12) (hF : F.length = 12) : upd (upd (upd Y 0 [0, 0, 0, 0]) 4 (F.drop 4)) 0 (F.take 4) = F := by
 obtain ⟨c0, c1, c2, c3, c4, c5, c6, c7, c8, c9, c10, c11, rfl⟩ := Sl.twelve hY
 obtain ⟨f0, f1, f2, f3, f4, f5, f6, f7, f8, f9, f10, f11, rfl⟩ := Sl.twelve hF
 rfl
theorem laid_way {a : Nat} {O N : List UInt8} {j : Nat} {B n : List UInt8} {S : Vf.Sv} (w : OnWay S n B (OkAll a O N)) (h : Jth a O N j B) (hr : a + 12 * j + 12 ≤ O.length) (hN : N.length = O.length) :
 ∃ B', OnWay (laid S n (a + 12 * j) (slot N (a + 12 * j))) n B' (OkAll a O N) ∧ Jth a O N (j + 1) B' := by
 have hl := h.len
 obtain ⟨X, Y, Z, rfl, hX, hY⟩ := cut3 (B := B) (o := a + 12 * j) (k := 12) (by omega)
 have hYO : Y = tw O (a + 12 * j) := by
  have e1 := tw_mid (X := X) (Y := Y) (Z := Z) hY
  rw [hX] at e1
  rw [← h.rest j (Nat.le_refl _) hr, e1]
 have hlN : (tw N (a + 12 * j)).length = 12 := tw_len (by omega)
 have hp := pt_bd _ hlN
 rw [← slot_tw] at hp
 obtain ⟨p, hp0⟩ : ∃ p, p = slot N (a + 12 * j) := ⟨_, rfl⟩
 rw [← hp0] at hp ⊢
 obtain ⟨F, hF0⟩ : ∃ F, F = Sl.enc p.1 p.2 := ⟨_, rfl⟩
 have hF : F.length = 12 := by rw [hF0]; exact Sl.enc_len _ _
 have hFp : pt F = pt (tw N (a + 12 * j)) := by rw [hF0, pt_enc hp, hp0]; rfl
 have ed : F.drop 4 = Sl.beb p.2 8 := by rw [hF0]; rfl
 have et : F.take 4 = Sl.beb (Sl.lim p.1) 4 := by rw [hF0]; rfl
 have l8 : (F.drop 4).length = 8 := by rw [List.length_drop]; omega
 have l4 : (F.take 4).length = 4 := by rw [List.length_take]; omega
 have hY1 : (upd Y 0 [0, 0, 0, 0]).length = 12 := by rw [Vf.upd_len (by simp; omega)]; exact hY
 have hY2 : (upd (upd Y 0 [0, 0, 0, 0]) 4 (F.drop 4)).length = 12 := by rw [Vf.upd_len (by omega)]; exact hY1
 have hlX : (X ++ (Y ++ Z)).length = X.length + 12 + Z.length := by simp only [List.length_append, hY]; omega
 unfold laid
 rw [← ed, ← et]
 have w1 := w.write (t := ((a + 12 * j : Nat) : Int)) (p := [0, 0, 0, 0]) (by omega) (by simp; omega) (fun d hd => by
  have hd4 : d ≤ 4 := hd
  rw [Int.toNat_natCast, ← hX, show X.length = X.length + 0 from rfl, upd_in (by rw [List.length_take]; omega)]
  refine h.mid hX hY (by rw [Vf.upd_len (by rw [List.length_take]; omega)]; exact hY) hr ?_
  rw [← hYO]
  exact gone_a hY d hd4)
 rw [Int.toNat_natCast, ← hX, show X.length = X.length + 0 from rfl, upd_in (by simp; omega), Nat.add_zero] at w1
 have hlX1 : (X ++ (upd Y 0 [0, 0, 0, 0] ++ Z)).length = X.length + 12 + Z.length := by simp only [List.length_append, hY1]; omega
 have w2 := w1.write (t := ((X.length : Nat) : Int) + 4) (p := F.drop 4) (by omega) (by omega) (fun d hd => by
  have hd8 : d ≤ 8 := by omega
  rw [show (((X.length : Nat) : Int) + 4).toNat = X.length + 4 by omega, upd_in (by rw [List.length_take]; omega)]
  refine h.mid hX hY (by rw [Vf.upd_len (by rw [List.length_take]; omega)]; exact hY1) hr ?_
  rw [← hYO]
  exact gone_b hY hF d hd8)
 rw [show (((X.length : Nat) : Int) + 4).toNat = X.length + 4 by omega, upd_in (by omega)] at w2
 have hlX2 : (X ++ (upd (upd Y 0 [0, 0, 0, 0]) 4 (F.drop 4) ++ Z)).length = X.length + 12 + Z.length := by simp only [List.length_append, hY2]; omega
 have w3 := w2.write (t := ((X.length : Nat) : Int)) (p := F.take 4) (by omega) (by omega) (fun d hd => by
  have hd4 : d ≤ 4 := by omega
  rw [Int.toNat_natCast, show X.length = X.length + 0 from rfl, upd_in (by rw [List.length_take]; omega)]
  refine h.mid hX hY (by rw [Vf.upd_len (by rw [List.length_take]; omega)]; exact hY2) hr ?_
  rw [← hYO]
  exact gone_c hY hF hFp d hd4)
 rw [Int.toNat_natCast, show X.length = X.length + 0 from rfl, upd_in (by omega), enc_full hY hF, Nat.add_zero] at w3
 rw [← hX]
 exact ⟨_, w3, h.next hX hY hF hFp⟩
theorem tear_way {a : Nat} {O N n : List UInt8} {S : Vf.Sv} (hs : Has S.now n O) (hw : S.was = S.now) (hl : S.l = []) (hN : N.length = O.length) : ∀ j, a + 12 * j ≤ O.length → ∃ B, OnWay (tear n O N a j S) n B (OkAll a O N) ∧ Jth a O N j B
 | 0, _ => by
   have h0 : Jth a O N 0 O := ⟨rfl, rfl, fun k hk => absurd hk (Nat.not_lt_zero _), fun k _ _ => rfl⟩
   exact ⟨O, OnWay.start hs hw hl h0.ok, h0⟩
 | j + 1, hj => by
   obtain ⟨B, w, h⟩ := tear_way (a := a) hs hw hl hN j (by omega)
   unfold tear
   split
   ·rename_i e
    refine ⟨B, w, h.len, h.head, fun k hk hr => ?_, fun k hk hr => h.rest k (by omega) hr⟩
    by_cases q : k = j
    ·subst q; rw [h.rest k (Nat.le_refl _) hr, e]
    ·exact h.done k (by omega) hr
   ·exact laid_way w h (by omega) hN
end Wp
end
section
open Go.RowKit
open Fx (Vl)
open Vf (Has upd OnWay)
namespace Wp
def Asked (s c now t : Int) (k : Nat) : Prop := 0 < t ∧ Sl.al t s = t ∧ Sl.pl s c t = (k : Int) ∧ t ≤ now ∧ now - t < s * c
theorem sm_12 (l : List (Int × Int)) : ∀ k, ∃ q : Int, Wh.sm l k = 12 * q
 | 0 => ⟨0, rfl⟩
 | k + 1 => by
   obtain ⟨q, hq⟩ := sm_12 l k
   exact ⟨q + (Wh.At l k).2, by show Wh.sm l k + 12 * (Wh.At l k).2 = _; rw [hq]; omega⟩
theorem nth_in {h : Hd} (hv : h.val = true) {i : Nat} (hi : i < h.l.length) (k : Nat) (hk : (k : Int) < h.cnt i) : ∃ K, (h.offs (i : Int)).toNat + 12 * k = (h.offs ((0 : Nat) : Int)).toNat + 12 * K ∧ (((h.offs ((0 : Nat) : Int)).toNat + 12 * K + 12 : Nat) : Int) ≤ h.size := by
 obtain ⟨q, hq⟩ := sm_12 h.l i
 have e1 := offs_eq hv hi
 have e0 := offs_eq hv (by omega : 0 < h.l.length)
 have hr := ring_in hv hi
 have hr0 := ring_in hv (by omega : 0 < h.l.length)
 unfold Wh.ends at e1 e0
 have e00 : Wh.sm h.l 0 = 0 := rfl
 rw [e00] at e0
 rw [hq] at e1
 exact ⟨q.toNat + k, by omega, by omega⟩
theorem not_asked {s c now t t' : Int} {k : Nat} (hs : 1 ≤ s) (hc : 1 ≤ c) (h : t = 0 ∨ Stood s c now t k) (hlt : t' < t) : ¬ Asked s c now t' k := by
 rintro ⟨a1, a2, a3, a4, a5⟩
 rcases h with rfl | h
 ·omega
 ·rcases once hs hc h a1 (by omega) a2 a3 with e | e
  ·omega
  ·omega
theorem torn_left {h : Hd} {now : Int} {O N B n : List UInt8} {l l2 l3 : List Vf.Fl} (fO : Stands l n h O) (pO : Placed h now O) (fN : Stands l2 n h N) (pN : Placed h now N) (ok : OkAll (h.offs ((0 : Nat) : Int)).toNat O N B) (hs : Has l3 n B) :
 Stands l3 n h B ∧ ∀ i, i < h.l.length → ∀ k : Nat, (k : Int) < h.cnt i → slot B ((h.offs (i : Int)).toNat + 12 * k) = slot O ((h.offs (i : Int)).toNat + 12 * k) ∨ slot B ((h.offs (i : Int)).toNat + 12 * k) = slot N ((h.offs (i : Int)).toNat + 12 * k) ∨ ¬ Asked (h.step i) (h.cnt i) now (slot B ((h.offs (i : Int)).toNat + 12 * k)).1 k := by
 have hv := fO.fits.val
 have hlen := Hd.len hv
 have hOs := fO.fits.size
 constructor
 ·refine ⟨⟨hs, hv, by rw [ok.len]; exact hOs⟩, ?_⟩
  obtain ⟨M, hM⟩ := fO.head
  have hE := enc_len7 hv
  have e0 := offs_eq hv (by omega : 0 < h.l.length)
  have e00 : Wh.sm h.l 0 = 0 := rfl
  unfold Wh.ends at e0
  rw [e00] at e0
  refine ⟨B.drop (h.offs ((0 : Nat) : Int)).toNat, ?_⟩
  have ht : B.take (h.offs ((0 : Nat) : Int)).toNat = Wh.enc h.ag h.xf h.l := by
   rw [ok.head, hM, show (h.offs ((0 : Nat) : Int)).toNat = (Wh.enc h.ag h.xf h.l).length by omega, List.take_left]
  rw [← ht, List.take_append_drop]
 ·intro i hi k hk
  obtain ⟨⟨n1, n2⟩, n3, n4⟩ := Hd.nums hv i hi
  obtain ⟨K, hK, hin⟩ := nth_in hv hi k hk
  have hO := pO i hi k hk
  have hN := pN i hi k hk
  have hG := ok.slots K (by omega)
  rw [hK] at hO hN ⊢
  rw [slot_tw, slot_tw] at *
  rcases hG with g | g | g | g | g
  ·exact .inl g
  ·exact .inr (.inl g)
  ·exact .inr (.inr fun a => by have := a.1; omega)
  ·exact .inr (.inr (not_asked n1 n3 hO g))
  ·exact .inr (.inr (not_asked n1 n3 hN g))
theorem Stands.ring {l : List Vf.Fl} {n : List UInt8} {h : Hd} {B : List UInt8} (f : Stands l n h B) {i : Nat} (hi : i < h.l.length) : ring l n (i : Int) = (side B (h.offs (i : Int)).toNat (h.cnt i).toNat, 0) := by
 have hI := f.info
 have hr := ring_in f.fits.val hi
 have hs := f.fits.size
 unfold Wp.ring
 rw [hI]
 dsimp only
 rw [if_neg (by omega), if_neg (by omega), Int.toNat_natCast]
 congr 1
 unfold side
 apply List.map_congr_left
 intro k hk
 have hk2 := List.mem_range.1 hk
 rw [f.fits.has.read_eq (t := h.offs (i : Int) + 12 * (k : Int)) (m := 12) (by omega) (by omega) (by omega)]
 rw [show (h.offs (i : Int) + 12 * (k : Int)).toNat = (h.offs (i : Int)).toNat + 12 * k by omega]
 rfl
end Wp
end
section
open Go.RowKit Go.Sort
open Fx (Vl)
open Me
open Wp
namespace Wp
def seek (p : Nat → Bool) : Nat → Nat → Int
 | 0, _ => -1
 | m + 1, i => if p i = true then (i : Int) else seek p m (i + 1)
theorem seek_yes {p : Nat → Bool} {m i : Nat} (h : p i = true) : seek p (m + 1) i = (i : Int) := by unfold seek; rw [if_pos h]
theorem seek_no {p : Nat → Bool} {m i : Nat} (h : p i = false) : seek p (m + 1) i = seek p m (i + 1) := by
 conv => lhs; unfold seek
 rw [if_neg (by rw [h]; exact Bool.false_ne_true)]
theorem seek_none {p : Nat → Bool} : ∀ (m i : Nat), (∀ k, p k = false) → seek p m i = -1
 | 0, _, _ => rfl
 | m + 1, i, h => by rw [seek_no (h i)]; exact seek_none m (i + 1) h
theorem seek_first {h : Hd} {d : Int} : ∀ (m i : Nat), seek (fun k => decide (d < h.step k * h.cnt k)) m i = match first h d m i with | none => -1 | some j => (j : Int)
 | 0, _ => rfl
 | m + 1, i => by
   by_cases e : d < h.step i * h.cnt i
   ·rw [seek_yes (by simpa using e), first_yes e]
   ·rw [seek_no (by simpa using e), first_no e]
    exact seek_first m (i + 1)
end Wp
theorem span_prog (s c m : Int) (hm : s * c = m) (hw : IntKind.i64.wrap m = m) (w : World) :
 Calls Tryz.prog 103 #[.agg #[.int .i64 s, .int .i64 c]] w fun e w' => e = .returned (.int .i64 m) ∧ Below w.heap.size w w' := by
 go_enter Tryz.func103, Tryz.ntmps103
 go_wp2_with fail
 go_ret
 exact ⟨by first | rfl | simp [hm, hw], Bq⟩
theorem reach_fn (sec s c m : Int) (hm : s * c = m) (hw : IntKind.i64.wrap m = m) (p : Nat) (w : World) (hp : w.cell? ⟨p, 0, none⟩ = some (.int .i64 sec)) (hpl : p < w.heap.size) :
 Calls Tryz.prog 110 #[.agg #[.int .i64 s, .int .i64 c], .pointer (some ⟨p, 0, none⟩)] w fun e w' => e = .returned (.bool (decide (sec ≤ m))) ∧ Below w.heap.size w w' := by
 have HS : Hid (∀ W, Calls Tryz.prog 103 #[.agg #[.int .i64 s, .int .i64 c]] W fun e w' => e = .returned (.int .i64 m) ∧ Below W.heap.size W w') := Lib.hid fun W => span_prog s c m hm hw W
 have hne : p ≠ w.heap.size := by omega
 have e1 : (w.alloc (.cells #[.int .i64 s, .int .i64 c] 56)).cell? ⟨p, 0, none⟩ = some (.int .i64 sec) := (((Below.refl _ w).alloc (Nat.le_refl _) _).cell (p := ⟨p, 0, none⟩) hpl).trans hp
 have e3 : (w.alloc (.cells #[.int .i64 s, .int .i64 c] 56)).cell? ⟨w.heap.size, 0, none⟩ = some (.int .i64 s) := (RowAt.new w _ _).cell 0
 have e4 : (w.alloc (.cells #[.int .i64 s, .int .i64 c] 56)).cell? ⟨w.heap.size, 1, none⟩ = some (.int .i64 c) := (RowAt.new w _ _).cell 1
 clear hm hp
 obtain ⟨q, hq⟩ : ∃ q, q = decide (sec ≤ m) := ⟨_, rfl⟩
 have HQ := Lib.hid hq
 rw [← hq]
 clear hq
 go_enter Tryz.func110, Tryz.ntmps110
 go_wp2_with fail
 go_region_held3 (fun W => W.cell? ⟨p, 0, none⟩ = some (.int .i64 sec) ∧ W.cell? ⟨w.heap.size, 0, none⟩ = some (.int .i64 s) ∧ W.cell? ⟨w.heap.size, 1, none⟩ = some (.int .i64 c)) (first | exact ⟨e1, e3, e4⟩ | exact ⟨f1, f3, f4⟩ | go_keep)
  (first | (go_at_call 103; (with_reducible refine (HS.out _).mono ?_); rintro e w2 ⟨rfl, hb2⟩; have f1 : w2.cell? ⟨p, 0, none⟩ = some (.int .i64 sec) := (hb2.cell (p := ⟨p, 0, none⟩) (by simp; omega)).trans e1; have f3 : w2.cell? ⟨w.heap.size, 0, none⟩ = some (.int .i64 s) := (hb2.cell (p := ⟨w.heap.size, 0, none⟩) (by simp)).trans e3; have f4 : w2.cell? ⟨w.heap.size, 1, none⟩ = some (.int .i64 c) := (hb2.cell (p := ⟨w.heap.size, 1, none⟩) (by simp)).trans e4; have HB2 : Hid (Below w.heap.size w w2) := Lib.hid (below_via hb2 Bqn); clear hb2))
 all_goals go_wp2_with fail
 all_goals go_ret
 all_goals exact ⟨by rw [HQ.out]; rfl, HB2.out⟩
theorem cover_fn (at_ now s c m : Int) (hm : s * c = m) (hw : IntKind.i64.wrap m = m) (d : Int) (hd : now - at_ = d) (hwd : at_ ≤ now → IntKind.i64.wrap d = d) (p1 p2 : Nat) (w : World) (h1 : w.cell? ⟨p1, 0, none⟩ = some (.int .i64 at_)) (hl1 : p1 < w.heap.size) (h2 : w.cell? ⟨p2, 0, none⟩ = some (.int .i64 now)) (hl2 : p2 < w.heap.size) :
 Calls Tryz.prog 102 #[.agg #[.int .i64 s, .int .i64 c], .pointer (some ⟨p1, 0, none⟩), .pointer (some ⟨p2, 0, none⟩)] w fun e w' => e = .returned (.bool (decide (at_ ≤ now) && decide (d < m))) ∧ Below w.heap.size w w' := by
 have HS : Hid (∀ W, Calls Tryz.prog 103 #[.agg #[.int .i64 s, .int .i64 c]] W fun e w' => e = .returned (.int .i64 m) ∧ Below W.heap.size W w') := Lib.hid fun W => span_prog s c m hm hw W
 have hne1 : p1 ≠ w.heap.size := by omega
 have hne2 : p2 ≠ w.heap.size := by omega
 have hB : Below w.heap.size w (w.alloc (.cells #[.int .i64 s, .int .i64 c] 56)) := (Below.refl _ w).alloc (Nat.le_refl _) _
 have e1 : (w.alloc (.cells #[.int .i64 s, .int .i64 c] 56)).cell? ⟨p1, 0, none⟩ = some (.int .i64 at_) := (hB.cell (p := ⟨p1, 0, none⟩) hl1).trans h1
 have e2 : (w.alloc (.cells #[.int .i64 s, .int .i64 c] 56)).cell? ⟨p2, 0, none⟩ = some (.int .i64 now) := (hB.cell (p := ⟨p2, 0, none⟩) hl2).trans h2
 have e3 : (w.alloc (.cells #[.int .i64 s, .int .i64 c] 56)).cell? ⟨w.heap.size, 0, none⟩ = some (.int .i64 s) := (RowAt.new w _ _).cell 0
 have e4 : (w.alloc (.cells #[.int .i64 s, .int .i64 c] 56)).cell? ⟨w.heap.size, 1, none⟩ = some (.int .i64 c) := (RowAt.new w _ _).cell 1
 clear hm h1 h2
 by_cases hle : at_ ≤ now
 ·have hwd' := hwd hle
  obtain ⟨q, hq⟩ : ∃ q, q = (decide (at_ ≤ now) && decide (d < m)) := ⟨_, rfl⟩
  have HQ : Hid (q = decide (d < m)) := Lib.hid (by rw [hq, decide_eq_true hle, Bool.true_and])
  rw [← hq]
  clear hq hwd
  go_enter Tryz.func102, Tryz.ntmps102
  go_wp2_with fail
  go_region_held3 (fun W => W.cell? ⟨p1, 0, none⟩ = some (.int .i64 at_) ∧ W.cell? ⟨p2, 0, none⟩ = some (.int .i64 now) ∧ W.cell? ⟨w.heap.size, 0, none⟩ = some (.int .i64 s) ∧ W.cell? ⟨w.heap.size, 1, none⟩ = some (.int .i64 c)) (first | exact ⟨e1, e2, e3, e4⟩ | exact ⟨f1, f2, f3, f4⟩ | go_keep)
   (first | (go_at_call 103; (with_reducible refine (HS.out _).mono ?_); rintro e w2 ⟨rfl, hb2⟩; have f1 : w2.cell? ⟨p1, 0, none⟩ = some (.int .i64 at_) := (hb2.cell (p := ⟨p1, 0, none⟩) (by simp; omega)).trans e1; have f2 : w2.cell? ⟨p2, 0, none⟩ = some (.int .i64 now) := (hb2.cell (p := ⟨p2, 0, none⟩) (by simp; omega)).trans e2; have f3 : w2.cell? ⟨w.heap.size, 0, none⟩ = some (.int .i64 s) := (hb2.cell (p := ⟨w.heap.size, 0, none⟩) (by simp)).trans e3; have f4 : w2.cell? ⟨w.heap.size, 1, none⟩ = some (.int .i64 c) := (hb2.cell (p := ⟨w.heap.size, 1, none⟩) (by simp)).trans e4; have HB2 : Hid (Below w.heap.size w w2) := Lib.hid (below_via hb2 Bqn); clear hb2))
  all_goals go_wp2_with fail
  all_goals go_ret
  all_goals exact ⟨by rw [HQ.out]; rfl, HB2.out⟩
 ·obtain ⟨q, hq⟩ : ∃ q, q = (decide (at_ ≤ now) && decide (d < m)) := ⟨_, rfl⟩
  have HQ : Hid (q = false) := Lib.hid (by rw [hq, decide_eq_false hle, Bool.false_and])
  rw [← hq]
  have hleb : decide (at_ ≤ now) = false := decide_eq_false hle
  have hXl1 : p1 < (w.alloc (.cells #[.int .i64 s, .int .i64 c] 56)).heap.size := by simp; omega
  have hXl2 : p2 < (w.alloc (.cells #[.int .i64 s, .int .i64 c] 56)).heap.size := by simp; omega
  have hB0 := hB
  clear hq hwd hB e3 e4
  go_enter Tryz.func102, Tryz.ntmps102
  go_wp2_with fail
  generalize w.alloc (.cells #[.int .i64 s, .int .i64 c] 56) = X at *
  refine Inv.region (fun W W' => Below W.heap.size W W') (fun i v W => match i with
   | 0 => v = .int .i64 at_
   | 1 => v = .int .i64 now
   | 2 => v = .bool false
   | 3 => v = .bool false
   | 4 => v = undef
   | 5 => v = undef
   | 6 => v = undef
   | 7 => v = undef
   | 8 => v = undef
   | 9 => v = undef
   | 10 => v = .bool false
   | 11 => v = .bool false
   | _ => True) (by kernel_rfl) (by kernel_rfl) (by kernel_rfl) (fun W => Below.refl _ _) (fun a b c h k => h.trans (k.mono h.size)) (fun i v W W' h he => ?stab) ?obls ?fin
  case stab =>
   match i, h with
   | 0, h => exact h
   | 1, h => exact h
   | 2, h => exact h
   | 3, h => exact h
   | 4, h => exact h
   | 5, h => exact h
   | 6, h => exact h
   | 7, h => exact h
   | 8, h => exact h
   | 9, h => exact h
   | 10, h => exact h
   | 11, h => exact h
   | _ + 12, h => exact h
  case obls =>
   refine .cons ?_ (.cons ?_ (.cons ?_ (.cons ?_ (.cons ?_ (.cons ?_ (.cons ?_ (.cons ?_ (.cons ?_ (.cons ?_ (.cons ?_ (.cons ?_ .nil)))))))))))
   ·intro ac wx hE hf hd
    have hB : Below X.heap.size X wx := ⟨hE.1,hE.2,hE.3,hE.4,hE.5⟩
    rw [if_pos (Inv.want0 rfl _)]
    have h1 : ac.eval (.tmp 1) = .pointer (some ⟨p1, 0, none⟩) := hf 1 (by kernel_rfl)
    clear hf hd
    have k1 := (hB.cell (p := ⟨p1, 0, none⟩) hXl1).trans e1
    have k2 := (hB.cell (p := ⟨p2, 0, none⟩) hXl2).trans e2
    refine Inv.val (.int .i64 at_) ?_ rfl rfl (Below.refl _ _)
    clear hE hB
    generalize ac.eval = ev at *
    simp [execOp, go_sem, *]
   ·intro ac wx hE hf hd
    have hB : Below X.heap.size X wx := ⟨hE.1,hE.2,hE.3,hE.4,hE.5⟩
    rw [if_pos (Inv.want0 rfl _)]
    have h2 : ac.eval (.tmp 2) = .pointer (some ⟨p2, 0, none⟩) := hf 2 (by kernel_rfl)
    clear hf hd
    have k1 := (hB.cell (p := ⟨p1, 0, none⟩) hXl1).trans e1
    have k2 := (hB.cell (p := ⟨p2, 0, none⟩) hXl2).trans e2
    refine Inv.val (.int .i64 now) ?_ rfl rfl (Below.refl _ _)
    clear hE hB
    generalize ac.eval = ev at *
    simp [execOp, go_sem, *]
   ·intro ac wx hE hf hd
    have hB : Below X.heap.size X wx := ⟨hE.1,hE.2,hE.3,hE.4,hE.5⟩
    rw [if_pos (Inv.want0 rfl _)]
    have h5 := hd 0 _ (by kernel_rfl) rfl
    change ac.eval (.tmp 5) = .int .i64 at_ at h5
    have h6 := hd 1 _ (by kernel_rfl) rfl
    change ac.eval (.tmp 6) = .int .i64 now at h6
    clear hf hd
    refine Inv.val (.bool false) ?_ rfl rfl (Below.refl _ _)
    clear hE hB
    generalize ac.eval = ev at *
    simp [execOp, go_sem, *]
   ·intro ac wx hE hf hd
    have hB : Below X.heap.size X wx := ⟨hE.1,hE.2,hE.3,hE.4,hE.5⟩
    rw [if_pos (Inv.want0 rfl _)]
    have h7 := hd 2 _ (by kernel_rfl) rfl
    change ac.eval (.tmp 7) = .bool false at h7
    clear hf hd
    have k1 := (hB.cell (p := ⟨p1, 0, none⟩) hXl1).trans e1
    have k2 := (hB.cell (p := ⟨p2, 0, none⟩) hXl2).trans e2
    refine Inv.val (.bool false) ?_ rfl rfl (Below.refl _ _)
    clear hE hB
    generalize ac.eval = ev at *
    simp [execOp, go_sem, *]
   ·intro ac wx hE hf hd
    have hB : Below X.heap.size X wx := ⟨hE.1,hE.2,hE.3,hE.4,hE.5⟩
    have hg := hd 3 _ (by kernel_rfl) rfl
    change ac.eval (.tmp 8) = .bool false at hg
    rw [if_neg (Inv.unwant (j := 3) (b := true) (c := false) (d := 8) rfl rfl rfl hg rfl)]
    all_goals exact rfl
   ·intro ac wx hE hf hd
    have hB : Below X.heap.size X wx := ⟨hE.1,hE.2,hE.3,hE.4,hE.5⟩
    have hg := hd 3 _ (by kernel_rfl) rfl
    change ac.eval (.tmp 8) = .bool false at hg
    rw [if_neg (Inv.unwant (j := 3) (b := true) (c := false) (d := 8) rfl rfl rfl hg rfl)]
    all_goals exact rfl
   ·intro ac wx hE hf hd
    have hB : Below X.heap.size X wx := ⟨hE.1,hE.2,hE.3,hE.4,hE.5⟩
    have hg := hd 3 _ (by kernel_rfl) rfl
    change ac.eval (.tmp 8) = .bool false at hg
    rw [if_neg (Inv.unwant (j := 3) (b := true) (c := false) (d := 8) rfl rfl rfl hg rfl)]
    all_goals exact rfl
   ·intro ac wx hE hf hd
    have hB : Below X.heap.size X wx := ⟨hE.1,hE.2,hE.3,hE.4,hE.5⟩
    have hg := hd 3 _ (by kernel_rfl) rfl
    change ac.eval (.tmp 8) = .bool false at hg
    rw [if_neg (Inv.unwant (j := 3) (b := true) (c := false) (d := 8) rfl rfl rfl hg rfl)]
    all_goals exact rfl
   ·intro ac wx hE hf hd
    have hB : Below X.heap.size X wx := ⟨hE.1,hE.2,hE.3,hE.4,hE.5⟩
    have hg := hd 3 _ (by kernel_rfl) rfl
    change ac.eval (.tmp 8) = .bool false at hg
    rw [if_neg (Inv.unwant (j := 3) (b := true) (c := false) (d := 8) rfl rfl rfl hg rfl)]
    all_goals exact rfl
   ·intro ac wx hE hf hd
    have hB : Below X.heap.size X wx := ⟨hE.1,hE.2,hE.3,hE.4,hE.5⟩
    have hg := hd 3 _ (by kernel_rfl) rfl
    change ac.eval (.tmp 8) = .bool false at hg
    rw [if_neg (Inv.unwant (j := 3) (b := true) (c := false) (d := 8) rfl rfl rfl hg rfl)]
    all_goals exact rfl
   ·intro ac wx hE hf hd
    have hB : Below X.heap.size X wx := ⟨hE.1,hE.2,hE.3,hE.4,hE.5⟩
    rw [if_pos (Inv.want0 rfl _)]
    have h8 := hd 3 _ (by kernel_rfl) rfl
    change ac.eval (.tmp 8) = .bool false at h8
    have h14 := hd 9 _ (by kernel_rfl) rfl
    change ac.eval (.tmp 14) = undef at h14
    clear hf hd
    have k1 := (hB.cell (p := ⟨p1, 0, none⟩) hXl1).trans e1
    have k2 := (hB.cell (p := ⟨p2, 0, none⟩) hXl2).trans e2
    refine Inv.val (.bool false) ?_ rfl rfl (Below.refl _ _)
    clear hE hB
    have hcst : ∀ v, ac.eval (.const v) = v := fun _ => rfl
    generalize ac.eval = ev at *
    simp [execOp, go_sem, *]
   ·intro ac wx hE hf hd
    have hB : Below X.heap.size X wx := ⟨hE.1,hE.2,hE.3,hE.4,hE.5⟩
    rw [if_pos (Inv.want0 rfl _)]
    have h15 := hd 10 _ (by kernel_rfl) rfl
    change ac.eval (.tmp 15) = .bool false at h15
    clear hf hd
    have k1 := (hB.cell (p := ⟨p1, 0, none⟩) hXl1).trans e1
    have k2 := (hB.cell (p := ⟨p2, 0, none⟩) hXl2).trans e2
    refine Inv.val (.bool false) ?_ rfl rfl (Below.refl _ _)
    clear hE hB
    generalize ac.eval = ev at *
    simp [execOp, go_sem, *]
  case fin =>
   intro ac wx hE ha hall
   have hB : Below X.heap.size X wx := ⟨hE.1,hE.2,hE.3,hE.4,hE.5⟩
   have h5 := hall 0 _ rfl
   change ac.eval (.tmp 5) = .int .i64 at_ at h5
   have h6 := hall 1 _ rfl
   change ac.eval (.tmp 6) = .int .i64 now at h6
   have h7 := hall 2 _ rfl
   change ac.eval (.tmp 7) = .bool false at h7
   have h8 := hall 3 _ rfl
   change ac.eval (.tmp 8) = .bool false at h8
   have h9 := hall 4 _ rfl
   change ac.eval (.tmp 9) = undef at h9
   have h10 := hall 5 _ rfl
   change ac.eval (.tmp 10) = undef at h10
   have h11 := hall 6 _ rfl
   change ac.eval (.tmp 11) = undef at h11
   have h12 := hall 7 _ rfl
   change ac.eval (.tmp 12) = undef at h12
   have h13 := hall 8 _ rfl
   change ac.eval (.tmp 13) = undef at h13
   have h14 := hall 9 _ rfl
   change ac.eval (.tmp 14) = undef at h14
   have h15 := hall 10 _ rfl
   change ac.eval (.tmp 15) = .bool false at h15
   have h4 := hall 11 _ rfl
   change ac.eval (.tmp 4) = .bool false at h4
   simp only [List.foldl, Inv.slot, Act.put] at ha
   change ac.tmps.getD 5 undef = _ at h5
   change ac.tmps.getD 6 undef = _ at h6
   change ac.tmps.getD 7 undef = _ at h7
   change ac.tmps.getD 8 undef = _ at h8
   change ac.tmps.getD 9 undef = _ at h9
   change ac.tmps.getD 10 undef = _ at h10
   change ac.tmps.getD 11 undef = _ at h11
   change ac.tmps.getD 12 undef = _ at h12
   change ac.tmps.getD 13 undef = _ at h13
   change ac.tmps.getD 14 undef = _ at h14
   change ac.tmps.getD 15 undef = _ at h15
   change ac.tmps.getD 4 undef = _ at h4
   simp only [h5, h6, h7, h8, h9, h10, h11, h12, h13, h14, h15, h4, List.setIfInBounds_toArray, List.set_cons_zero, List.set_cons_succ] at ha
   clear h5 h6 h7 h8 h9 h10 h11 h12 h13 h14 h15 h4 hall hE
   subst ha
   go_wp2_with fail
   go_ret
   exact ⟨by rw [HQ.out]; rfl, hB0.trans (hB.mono hB0.size)⟩
end
end Go.Proofs.YtljlanhpjpjgaaaGreatDoor
