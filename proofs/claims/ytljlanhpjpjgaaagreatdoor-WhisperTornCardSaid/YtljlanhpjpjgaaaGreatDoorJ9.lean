/- SlPut SlEnc SlREnc ByOf SlDec -/
import Derived.Test.YtljlanhpjpjgaaaGreatDoorJ1
import Derived.Test.YtljlanhpjpjgaaaGreatDoorJ6
import Derived.Deep.RegionLaw
import Derived.Laws.Bits64
import Derived.Deep.RegionWith
namespace Go.Proofs.YtljlanhpjpjgaaaGreatDoor
set_option maxRecDepth 100000
set_option maxHeartbeats 8000000
section
open Go.RowKit Go.Sort
open Me
namespace Sl
def bt (n : Int) (k : Nat) : UInt8 := UInt8.ofNat ((n / (2 : Int) ^ (8 * k)) % 256).toNat
def lim (a : Int) : Int := min (max a 0) 4294967295
def beb (n : Int) : Nat → List UInt8
 | 0 => []
 | k + 1 => bt n k :: beb n k
theorem beb_len (n : Int) (k : Nat) : (beb n k).length = k := by induction k with
 | zero => rfl
 | succ k ih => unfold beb; simp [ih]
theorem by8_bt (n : Int) (k : Nat) : by8 [bt n k] = [.int .u8 (n / (2 : Int) ^ (8 * k) % 256)] := by
 unfold by8 bt
 simp only [List.map_cons, List.map_nil, Wh.u8of]
def ptC (v : Value) (a n : Int) : Obj := .cells #[v, .int .i64 a, .int .i64 n] 180
def Pst (w0 : World) (g : Nat) (lr : Option Nat) (a n : Int) (L : List UInt8) (w : World) : Prop :=
 ∃ v, w.heap[g]? = some (ptC v a n) ∧ OwnB 0 w v L ∧ Kp (fun b => b = g ∨ lr = some b) w0 w ∧ (v.ownBlock = lr ∨ ∃ b, v.ownBlock = some b ∧ w0.heap.size ≤ b)
theorem pt_cells {w : World} {g : Nat} {v : Value} {a n : Int} (h : w.heap[g]? = some (ptC v a n)) :
 w.cell? ⟨g, 0, none⟩ = some v ∧ w.cell? ⟨g, 1, none⟩ = some (.int .i64 a) ∧ w.cell? ⟨g, 2, none⟩ = some (.int .i64 n) ∧ (∀ i, w.frozen? ⟨g, i, none⟩ = false) ∧ g < w.heap.size := by
 unfold ptC at h
 refine ⟨?_, ?_, ?_, fun i => ?_, (Array.getElem?_eq_some_iff.1 h).1⟩
 ·rw [cell_of_row w g 0 _ _ (0, 0) h]; rfl
 ·rw [cell_of_row w g 1 _ _ (0, 0) h]; rfl
 ·rw [cell_of_row w g 2 _ _ (0, 0) h]; rfl
 ·simp [World.frozen?, h]
theorem row_ne {w : World} {g : Nat} {v v' : Value} {a n : Int} {L : List UInt8} (h : w.heap[g]? = some (ptC v' a n)) (ho : OwnB 0 w v L) : v.ownBlock ≠ some g := by
 intro e
 rcases ho.2 with ⟨rfl, _⟩ | ⟨g', cap, cur, rfl, _, hh, _⟩
 ·cases e
 ·have : g' = g := by simpa [Value.ownBlock] using e
  subst this
  rw [h] at hh
  unfold ptC at hh
  simp at hh
theorem heap_cell0 {w : World} {g : Nat} {v : Value} {a n : Int} (h : w.heap[g]? = some (ptC v a n)) (u : Value) : (w.setCell ⟨g, 0, none⟩ u).heap[g]? = some (ptC u a n) := by
 unfold ptC at *
 simp [World.setCell, Array.getElem?_modify, h]
theorem Pst.put {w0 w w2 : World} {o : Obj} {g : Nat} {lr : Option Nat} {a n : Int} {X : List UInt8} {v v2 : Value} (hg : w.heap[g]? = some (ptC v a n)) (hk : Kp (fun b => b = g ∨ lr = some b) w0 w) (hfr : v.ownBlock = lr ∨ ∃ b, v.ownBlock = some b ∧ w0.heap.size ≤ b)
 (hne : v.ownBlock ≠ some g) (ho : OwnB 0 w2 v2 X) (hgr : (w.alloc o).grownBy w2 v.ownBlock) (hat : v2.ownBlock = v.ownBlock ∨ v2.ownBlock = some (w.alloc o).heap.size) : Pst w0 g lr a n X (w2.setCell ⟨g, 0, none⟩ v2) := by
 have gl : g < w.heap.size := (Array.getElem?_eq_some_iff.1 hg).1
 have h2 : w2.heap[g]? = some (ptC v a n) := (hgr.block g (by simp; omega) (fun e => hne e.symm)).trans ((Below.heap_alloc w o g gl).trans hg)
 refine ⟨v2, heap_cell0 h2 v2, owns_keep ho (fun b hb => Below.heap_setCell w2 ⟨g, 0, none⟩ _ b ?_), ?_, ?_⟩
 ·show b ≠ g
  rintro rfl
  rcases hat with e | e
  ·exact hne (e ▸ hb)
  ·rw [hb] at e; simp at e; omega
 ·refine ((hk.alloc o).grown hgr (fun b hb => ?_)).setCell ⟨g, 0, none⟩ (.inr (.inl rfl)) _
  rcases hfr with e | ⟨c, e, hc⟩
  ·exact .inr (.inr (e ▸ hb))
  ·rw [e] at hb
   injection hb with hb
   exact .inl (hb ▸ hc)
 ·rcases hat with e | e
  ·rw [e]; exact hfr
  ·exact .inr ⟨_, e, Nat.le_trans hk.size (by simp)⟩
end Sl
theorem sput_any {w : World} {g : Nat} {v : Value} {a n : Int} {L : List UInt8} (hg : w.heap[g]? = some (Sl.ptC v a n)) (hown : OwnB 0 w v L) (hL : L.length ≤ 100) (x : Int) (size : Nat) (hs : size ≤ 8) :
 Calls Tryz.prog 120 #[.pointer (some ⟨g, 0, none⟩), .int .i64 x, .int .i64 size] w fun e w' => e = .returned (.tuple #[]) ∧ Sl.Pst w g v.ownBlock a n (L ++ Sl.beb x size) w' := by
 obtain ⟨j0, hj0, hy0, hy1, hy2⟩ := info_parts u8info
 have HJ := Lib.hid hj0
 have HY := Lib.hid (And.intro hy0 (And.intro hy1 hy2))
 clear hj0 hy0 hy1 hy2
 have H0 : Hid (Sl.Pst w g v.ownBlock a n L w) := Lib.hid ⟨v, hg, hown, Kp.refl _ _, .inl rfl⟩
 generalize v.ownBlock = lr at *
 clear hg hown
 go_enter Tryz.func120, Tryz.ntmps120
 go_wp2_with fail
 go_loopw [6] (fun i wr => ∃ (k : Nat) (X : List UInt8), k ≤ size ∧ i = .int .i64 ((k : Int) - 1) ∧ Hid (X ++ Sl.beb x k = L ++ Sl.beb x size) ∧ Hid (Sl.Pst w g lr a n X wr)) (fun i _ => (intOf i + 1).toNat)
 case atStart => exact ⟨size, L, Nat.le_refl _, rfl, Lib.hid rfl, H0⟩
 case round =>
  obtain ⟨k, X, hk, rfl, hx, hp⟩ := hrel
  obtain ⟨v, h1, h2, h3, h4⟩ := hp.out
  obtain ⟨d0, d1, d2, d3, d4⟩ := Sl.pt_cells h1
  have df := d3 0
  clear d3
  obtain ⟨A, m, c, rfl⟩ := own_slice h2
  cases k with
  | zero =>
    go_wp2_with fail
    ((try simp only [Exit.inBlock, Exit.then]); first | (refine bodyPost_ret (results_none rfl _ _ _) rfl ?_) | (refine bodyPost_end (results_none rfl _ _ _) rfl ?_))
    exact ⟨rfl, by have := hx.out; simp only [Sl.beb, List.append_nil] at this; rw [← this]; exact hp.out⟩
  | succ k =>
    have hki : ((k + 1 : Nat) : Int) - 1 = (k : Int) := by omega
    rw [hki]
    have hq8 := Sl.by8_bt x k
    have hkk : (k : Int) ≤ 7 := by omega
    obtain ⟨y, q, hwy, hsh, hz⟩ : ∃ y q : Int, IntKind.i64.wrap (8 * (k : Int)) = y ∧ Op.shift .shr .i64 x .i64 y = pure (.int .i64 q) ∧ IntKind.u8.wrap q = x / (2 : Int) ^ (8 * k) % 256 := by
     refine ⟨8 * (k : Int), x / (2 : Int) ^ (8 * k), IntWalk.i64_in _ (by omega), ?_, ?_⟩
     ·rw [shift_shr .i64 .i64 x (8 * (k : Int)) (by omega) (by show _ ≤ (64 : Int); omega)]
      have : (8 * (k : Int)).toNat = 8 * k := by omega
      rw [this]
     ·rw [IntKind.wrap_u8]
    generalize x / (2 : Int) ^ (8 * k) % 256 = z at *
    have HOW : Hid ((wr.alloc (.cells #[.int .u8 z] 5)).ownsRow 0 5 1 (.slice A m c) X.length (by8 X)) := Lib.hid (owns_keep h2 fun b hb => Below.heap_alloc _ _ _ (own_lt h2 b hb).2)
    have HRD : Hid (Rd (wr.alloc (.cells #[.int .u8 z] 5)) (fun b => b = wr.heap.size) (some ⟨wr.heap.size, 0, none⟩) [.int .u8 z]) := Lib.hid (Rd.fresh wr [.int .u8 z] 5 _ rfl)
    have hne := Sl.row_ne h1 h2
    have HNE := Lib.hid hne
    have HG := Lib.hid h1
    have HK := Lib.hid h3
    have HFR := Lib.hid h4
    have hXl : X.length ≤ 108 := by
     have := congrArg List.length hx.out
     rw [List.length_append, List.length_append, Sl.beb_len, Sl.beb_len] at this
     omega
    have hX2 : X.length + 1 ≤ maxLen := by unfold maxLen; omega
    have HXM : Hid (∀ w2 v2, w2.ownsRow 0 5 1 v2 (X.length + 1) (by8 X ++ [.int .u8 z]) → OwnB 0 w2 v2 (X ++ [Sl.bt x k])) := Lib.hid fun w2 v2 h => by
     refine own_more (Y := [Sl.bt x k]) rfl ?_
     rw [hq8]
     exact h
    have HXE : Hid ((X ++ [Sl.bt x k]) ++ Sl.beb x k = L ++ Sl.beb x size) := Lib.hid (by rw [← hx.out, List.append_assoc]; rfl)
    generalize X ++ [Sl.bt x k] = X2 at *
    clear hx hp h1 h2 h3 h4 hne hq8
    go_wp2_with fail
    go_region_law (refine step_app _ rfl (.tmp 17) (.tmp 23) 45 rfl 0 5 j0 (.int .u8 0) 1 1 Tryz.underlying45 HJ.out HY.out.1 HY.out.2.1 HY.out.2.2 rfl (by decide) (.slice A m c) X.length (by8 X) (by simp [Act.eval]) HOW.out (fun b => b = wr.heap.size) (some ⟨wr.heap.size, 0, none⟩) 1 1 [.int .u8 z] (by simp [Act.eval]) (by simp) HRD.out (by intro u hu; simp at hu; subst hu; rfl) hX2 (by omega) (Nat.zero_le _) ?_; intro v2 w2 hown2 hg2 hat2 hnil2; have d0' : w2.cell? ⟨g, 0, none⟩ = some (.slice A m c) := (hg2.cell_far ⟨g, 0, none⟩ (by show g < _; simp; omega) (fun e => HNE.out e.symm)).trans ((World.cell?_alloc_lt _ _ _ d4).trans d0); have df' : w2.frozen? ⟨g, 0, none⟩ = false := (hg2.frozen_far ⟨g, 0, none⟩ (by show g < _; simp; omega) (fun e => HNE.out e.symm)).trans ((World.frozen?_of_block (Below.heap_alloc _ _ g d4)).trans df); have HO2 := Lib.hid (HXM.out _ _ hown2); have HG2 := Lib.hid hg2; have HA2 := Lib.hid hat2; obtain ⟨A2, m2, c2, rfl⟩ := own_slice hown2; clear hown2 hg2 hat2 hnil2)
    all_goals
     go_wp2_with fail
     go_roundw
     case rel => exact ⟨k, X2, by omega, by go_num, HXE, Lib.hid (Sl.Pst.put (w := wr.drew) HG.out HK.out.drew HFR.out HNE.out HO2.out HG2.out HA2.out)⟩
     case measure => first | (simp [intOf]; done) | (simp [intOf]; omega)
theorem stake_any {w : World} {g : Nat} {v : Value} {a n : Int} {L : List UInt8} (hg : w.heap[g]? = some (Sl.ptC v a n)) (hown : OwnB 0 w v L) :
 Calls Tryz.prog 121 #[.pointer (some ⟨g, 0, none⟩)] w fun e w' => e = .returned v ∧ w' = w.setCell ⟨g, 0, none⟩ (.slice none 0 0) := by
 obtain ⟨d0, _, _, d3, d4⟩ := Sl.pt_cells hg
 have df := d3 0
 obtain ⟨A, m, c, rfl⟩ := own_slice hown
 clear hg hown d3
 go_enter Tryz.func121, Tryz.ntmps121
 go_wp2_with fail
 go_ret
 exact ⟨rfl, rfl⟩
theorem pointOf_any (a n : Int) (w : World) :
 Calls Tryz.prog 119 #[.agg #[.int .i64 a, .int .i64 n]] w fun e w' => e = .returned (.pointer (some ⟨w.heap.size + 1, 0, none⟩)) ∧ w' = (w.alloc (.cells #[.int .i64 a, .int .i64 n] 27)).alloc (Sl.ptC (.slice none 0 0) (Sl.lim a) n) := by
 rcases (by omega : a < 0 ∨ (0 ≤ a ∧ a ≤ 4294967295) ∨ 4294967295 < a) with h | h | h
 ·have H : Hid (Sl.lim a = 0) := Lib.hid (by unfold Sl.lim; omega)
  go_enter Tryz.func119, Tryz.ntmps119
  go_wp2_with fail
  go_ret
  exact ⟨rfl, by rw [H.out]; rfl⟩
 ·have H : Hid (Sl.lim a = a) := Lib.hid (by unfold Sl.lim; omega)
  go_enter Tryz.func119, Tryz.ntmps119
  go_wp2_with fail
  go_ret
  exact ⟨rfl, by rw [H.out]; rfl⟩
 ·have H : Hid (Sl.lim a = 4294967295) := Lib.hid (by unfold Sl.lim; omega)
  go_enter Tryz.func119, Tryz.ntmps119
  go_wp2_with fail
  go_ret
  exact ⟨rfl, by rw [H.out]; rfl⟩
end
section
open Go.RowKit Go.Sort
open Me
theorem OwnB.rebase {a b : Nat} {w : World} {v : Value} {l : List UInt8} (h : OwnB a w v l) (hb : ∀ g, v.ownBlock = some g → b ≤ g) : OwnB b w v l := by
 refine ⟨h.1, ?_⟩
 rcases h.2 with hn | ⟨g, cap, cur, hv, _, rest⟩
 ·exact .inl hn
 ·exact .inr ⟨g, cap, cur, hv, hb g (by rw [hv]; rfl), rest⟩
namespace Sl
def enc (a n : Int) : List UInt8 := beb (lim a) 4 ++ beb n 8
theorem enc_len (a n : Int) : (enc a n).length = 12 := by unfold enc; rw [List.length_append, beb_len, beb_len]
theorem Pst.chain {w0 w w' : World} {g : Nat} {lr : Option Nat} {a n : Int} {L' : List UInt8} {v : Value} (hk : Kp (fun b => b = g ∨ lr = some b) w0 w) (hfr : v.ownBlock = lr ∨ ∃ b, v.ownBlock = some b ∧ w0.heap.size ≤ b)
 (h' : Pst w g v.ownBlock a n L' w') : Pst w0 g lr a n L' w' := by
 obtain ⟨v', p1, p2, p3, p4⟩ := h'
 refine ⟨v', p1, p2, hk.trans p3 (fun i hi ho => ?_), ?_⟩
 ·rcases ho with rfl | ho
  ·exact .inl rfl
  ·rcases hfr with e | ⟨b, e, hb⟩
   ·exact .inr (e ▸ ho)
   ·rw [e] at ho
    injection ho with ho
    omega
 ·rcases p4 with e | ⟨b, e, hb⟩
  ·rw [e]; exact hfr
  ·exact .inr ⟨b, e, Nat.le_trans hk.size hb⟩
theorem Pst.take {w0 w : World} {g : Nat} {a n : Int} {L : List UInt8} {v : Value} (h1 : w.heap[g]? = some (ptC v a n)) (h2 : OwnB 0 w v L) (h3 : Kp (fun b => b = g ∨ (none : Option Nat) = some b) w0 w) (h4 : v.ownBlock = none ∨ ∃ b, v.ownBlock = some b ∧ w0.heap.size ≤ b) :
 OwnB w0.heap.size (w.setCell ⟨g, 0, none⟩ (.slice none 0 0)) v L ∧ Kp (fun b => b = g) w0 (w.setCell ⟨g, 0, none⟩ (.slice none 0 0)) ∧ Pst (w.setCell ⟨g, 0, none⟩ (.slice none 0 0)) g none a n [] (w.setCell ⟨g, 0, none⟩ (.slice none 0 0)) ∧ v.ownBlock ≠ some g := by
 have hne := row_ne h1 h2
 refine ⟨?_, ?_, ⟨_, heap_cell0 h1 _, OwnB.nil _ _, Kp.refl _ _, .inl rfl⟩, hne⟩
 ·refine (OwnB.rebase h2 fun b hb => ?_).kp (O := fun b => b = g) (Kp.setCell (O := fun b => b = g) (Kp.refl _ _) ⟨g, 0, none⟩ (.inr rfl) _) fun b hb e => hne (e ▸ hb)
  rcases h4 with e | ⟨c, e, hc⟩
  ·rw [e] at hb; cases hb
  ·rw [e] at hb; injection hb with hb; omega
 ·refine Kp.setCell (O := fun b => b = g) (h3.mono fun i _ ho => ?_) ⟨g, 0, none⟩ (.inr rfl) _
  rcases ho with e | e
  ·exact e
  ·cases e
end Sl
section
variable {w0 w : World} {g : Nat} {lr : Option Nat} {a n : Int} {L : List UInt8}
theorem sput_P (h : Sl.Pst w0 g lr a n L w) (hL : L.length ≤ 100) (x : Int) (size : Nat) (hs : size ≤ 8) :
 Calls Tryz.prog 120 #[.pointer (some ⟨g, 0, none⟩), .int .i64 x, .int .i64 size] w fun e w' => e = .returned (.tuple #[]) ∧ Sl.Pst w0 g lr a n (L ++ Sl.beb x size) w' := by
 obtain ⟨v, h1, h2, h3, h4⟩ := h
 exact (sput_any h1 h2 hL x size hs).mono fun _ _ ⟨e, hp⟩ => ⟨e, Sl.Pst.chain h3 h4 hp⟩
theorem stake_P (h : Sl.Pst w0 g none a n L w) :
 Calls Tryz.prog 121 #[.pointer (some ⟨g, 0, none⟩)] w fun e w' => ∃ v, e = .returned v ∧ OwnB w0.heap.size w' v L ∧ Kp (fun b => b = g) w0 w' ∧ Sl.Pst w' g none a n [] w' ∧ v.ownBlock ≠ some g := by
 obtain ⟨v, h1, h2, h3, h4⟩ := h
 refine (stake_any h1 h2).mono ?_
 rintro e w' ⟨rfl, rfl⟩
 exact ⟨v, rfl, Sl.Pst.take h1 h2 h3 h4⟩
theorem pointOf_P (a n : Int) (w : World) :
 Calls Tryz.prog 119 #[.agg #[.int .i64 a, .int .i64 n]] w fun e w' => ∃ g, e = .returned (.pointer (some ⟨g, 0, none⟩)) ∧ w.heap.size ≤ g ∧ Sl.Pst w' g none (Sl.lim a) n [] w' ∧ Below w.heap.size w w' := by
 refine (pointOf_any a n w).mono ?_
 rintro e w' ⟨rfl, rfl⟩
 refine ⟨_, rfl, by omega, ⟨_, ?_, OwnB.nil _ _, Kp.refl _ _, .inl rfl⟩, Bq⟩
 have := heap_alloc_new (w.alloc (.cells #[.int .i64 a, .int .i64 n] 27)) (Sl.ptC (.slice none 0 0) (Sl.lim a) n)
 simpa using this
theorem putAt_P (h : Sl.Pst w0 g lr a n L w) (hL : L.length ≤ 100) :
 Calls Tryz.prog 123 #[.pointer (some ⟨g, 0, none⟩)] w fun e w' => e = .returned (.tuple #[]) ∧ Sl.Pst w0 g lr a n (L ++ Sl.beb a 4) w' := by
 have HC : Hid (∀ W : World, W.heap = w.heap → W.os = w.os → W.tape = w.tape → W.output = w.output → Calls Tryz.prog 120 #[.pointer (some ⟨g, 0, none⟩), .int .i64 a, .int .i64 4] W fun e w' => e = .returned (.tuple #[]) ∧ Sl.Pst w0 g lr a n (L ++ Sl.beb a 4) w') := Lib.hid fun W e1 e2 e3 e4 => by
  obtain ⟨v, h1, h2, h3, h4⟩ := h
  exact sput_P (w := W) ⟨v, by rw [e1]; exact h1, owns_keep h2 fun _ _ => by rw [e1], ⟨e2.trans h3.os, e3.trans h3.tape, e4.trans h3.output, by rw [e1]; exact h3.size, by rw [e1]; exact h3.block⟩, h4⟩ hL a 4 (by omega)
 have HCD := Lib.hid (HC.out w.drew rfl rfl rfl rfl)
 obtain ⟨v, h1, h2, h3, h4⟩ := h
 obtain ⟨d0, d1, d2, d3, d4⟩ := Sl.pt_cells h1
 clear h1 h2 h3 h4 d3
 go_enter Tryz.func123, Tryz.ntmps123
 go_wp2_with fail
 go_region_with (go_at_call 120; refine HCD.out.mono ?_; rintro e w' ⟨rfl, hp⟩; have HP := Lib.hid hp; clear hp)
 go_wp2_with fail
 ((try simp only [Exit.inBlock, Exit.then]); first | (refine bodyPost_ret (results_none rfl _ _ _) rfl ?_) | (refine bodyPost_end (results_none rfl _ _ _) rfl ?_))
 exact ⟨rfl, HP.out⟩
theorem putN_P (h : Sl.Pst w0 g lr a n L w) (hL : L.length ≤ 100) :
 Calls Tryz.prog 122 #[.pointer (some ⟨g, 0, none⟩)] w fun e w' => e = .returned (.tuple #[]) ∧ Sl.Pst w0 g lr a n (L ++ Sl.beb n 8) w' := by
 have HC : Hid (∀ W : World, W.heap = w.heap → W.os = w.os → W.tape = w.tape → W.output = w.output → Calls Tryz.prog 120 #[.pointer (some ⟨g, 0, none⟩), .int .i64 n, .int .i64 8] W fun e w' => e = .returned (.tuple #[]) ∧ Sl.Pst w0 g lr a n (L ++ Sl.beb n 8) w') := Lib.hid fun W e1 e2 e3 e4 => by
  obtain ⟨v, h1, h2, h3, h4⟩ := h
  exact sput_P (w := W) ⟨v, by rw [e1]; exact h1, owns_keep h2 fun _ _ => by rw [e1], ⟨e2.trans h3.os, e3.trans h3.tape, e4.trans h3.output, by rw [e1]; exact h3.size, by rw [e1]; exact h3.block⟩, h4⟩ hL n 8 (by omega)
 have HCD := Lib.hid (HC.out w.drew rfl rfl rfl rfl)
 obtain ⟨v, h1, h2, h3, h4⟩ := h
 obtain ⟨d0, d1, d2, d3, d4⟩ := Sl.pt_cells h1
 clear h1 h2 h3 h4 d3
 go_enter Tryz.func122, Tryz.ntmps122
 go_wp2_with fail
 go_region_with (go_at_call 120; refine HCD.out.mono ?_; rintro e w' ⟨rfl, hp⟩; have HP := Lib.hid hp; clear hp)
 go_wp2_with fail
 ((try simp only [Exit.inBlock, Exit.then]); first | (refine bodyPost_ret (results_none rfl _ _ _) rfl ?_) | (refine bodyPost_end (results_none rfl _ _ _) rfl ?_))
 exact ⟨rfl, HP.out⟩
end
end
section
open Go.RowKit Go.Sort
open Me
theorem OwnB.fresh (w : World) (l : List UInt8) (base : Nat) (hb : base ≤ w.heap.size) (hm : l.length ≤ 1048576) : OwnB base (w.alloc (.cells (by8 l).toArray 5)) (.slice (some ⟨w.heap.size, 0, none⟩) l.length l.length) l := by
 refine ⟨by rw [by8_len]; simp, .inr ⟨w.heap.size, l.length, _, rfl, hb, heap_alloc_new w _, Nat.le_refl _, by unfold maxLen; omega, by simp [by8_len], ?_⟩⟩
 rw [Nat.mul_one]
 exact List.take_of_length_le (by simp [by8_len])
theorem OwnB.lit {base : Nat} {w : World} {v : Value} {l : List UInt8} (h : OwnB base w v l) : ∃ A c, v = .slice A l.length c ∧ Rd w (fun i => v.ownBlock = some i) A (by8 l) := by
 obtain ⟨A, c, e, _, _, hr⟩ := Bs.own h
 refine ⟨A, c, e, ?_⟩
 subst e
 have h' : w.ownsRow base 5 1 (.slice A l.length c) l.length (by8 l) := h
 exact Rd.own h'
theorem four_P (n : Int) (h1 : 0 ≤ n) (h2 : n ≤ 4294967295) (w : World) :
 Calls Tryz.prog 48 #[.int .i64 n] w fun e w' => ∃ v, e = .returned v ∧ OwnB w.heap.size w' v (Wh.four n) ∧ Below w.heap.size w w' := by
 refine (four_any n h1 h2 w).mono ?_
 rintro e w' ⟨rfl, rfl⟩
 exact ⟨_, rfl, OwnB.fresh w (Wh.four n) _ (Nat.le_refl _) (by show 4 ≤ 1048576; omega), Bq⟩
namespace Sl
def hi (n : Int) : Int := n % 18446744073709551616 / 4294967296
def lo (n : Int) : Int := n % 18446744073709551616 % 4294967296
theorem pw : (2 : Int) ^ (8 * 7) = 72057594037927936 ∧ (2 : Int) ^ (8 * 6) = 281474976710656 ∧ (2 : Int) ^ (8 * 5) = 1099511627776 ∧ (2 : Int) ^ (8 * 4) = 4294967296 ∧ (2 : Int) ^ (8 * 3) = 16777216 ∧ (2 : Int) ^ (8 * 2) = 65536 ∧ (2 : Int) ^ (8 * 1) = 256 ∧ (2 : Int) ^ (8 * 0) = 1 := by
 refine ⟨rfl, rfl, rfl, rfl, rfl, rfl, rfl, rfl⟩
theorem enc_four (a n : Int) : enc a n = Wh.four (lim a) ++ Wh.four (hi n) ++ Wh.four (lo n) := by
 obtain ⟨p7, p6, p5, p4, p3, p2, p1, p0⟩ := pw
 unfold enc beb beb beb beb beb beb beb beb beb bt Wh.four
 simp only [p7, p6, p5, p4, p3, p2, p1, p0, Int.ediv_one, List.cons_append, List.nil_append]
 have e7 : n / 72057594037927936 % 256 = hi n / 16777216 % 256 := by unfold hi; omega
 have e6 : n / 281474976710656 % 256 = hi n / 65536 % 256 := by unfold hi; omega
 have e5 : n / 1099511627776 % 256 = hi n / 256 % 256 := by unfold hi; omega
 have e4 : n / 4294967296 % 256 = hi n % 256 := by unfold hi; omega
 have e3 : n / 16777216 % 256 = lo n / 16777216 % 256 := by unfold lo; omega
 have e2 : n / 65536 % 256 = lo n / 65536 % 256 := by unfold lo; omega
 have e1 : n / 256 % 256 = lo n / 256 % 256 := by unfold lo; omega
 have e0 : n % 256 = lo n % 256 := by unfold lo; omega
 rw [e7, e6, e5, e4, e3, e2, e1, e0]
theorem hi_bd (n : Int) : 0 ≤ hi n ∧ hi n ≤ 4294967295 := by unfold hi; omega
theorem lo_bd (n : Int) : 0 ≤ lo n ∧ lo n ≤ 4294967295 := by unfold lo; omega
theorem lim_bd (a : Int) : 0 ≤ lim a ∧ lim a ≤ 4294967295 := by unfold lim; omega
end Sl
theorem rsencode_core (a n x : Int) (w : World) (hx : Sl.lim a = x) (hc : (a ≤ 0 ∧ x = 0) ∨ (0 < a ∧ a ≤ 4294967295 ∧ x = a) ∨ (4294967295 < a ∧ x = 4294967295)) :
 Calls Tryz.prog 77 #[.agg #[.int .i64 a, .int .i64 n]] w fun e w' => ∃ v, e = .returned v ∧ OwnB w.heap.size w' v (Sl.enc a n) ∧ Below w.heap.size w w' := by
 have HE : Hid (Sl.enc a n = Wh.four x ++ Wh.four (Sl.hi n) ++ Wh.four (Sl.lo n)) := Lib.hid (by rw [Sl.enc_four, hx])
 have xb := Sl.lim_bd a
 rw [hx] at xb
 have hb := Sl.hi_bd n
 have lb := Sl.lo_bd n
 have HX := Lib.hid (fun W => four_P x xb.1 xb.2 W)
 have HH := Lib.hid (fun W => four_P (Sl.hi n) hb.1 hb.2 W)
 have HL := Lib.hid (fun W => four_P (Sl.lo n) lb.1 lb.2 W)
 obtain ⟨u, hu, hu0, hu1⟩ : ∃ u : Int, IntKind.u64.wrap n = u ∧ 0 ≤ u ∧ u ≤ 18446744073709551615 := ⟨IntKind.u64.wrap n, rfl, by rw [IntKind.wrap_u64]; omega, by rw [IntKind.wrap_u64]; omega⟩
 have hu' : n % 18446744073709551616 = u := by rw [← hu, IntKind.wrap_u64]
 have hsh : Op.shift .shr .u64 u .u64 32 = pure (.int .u64 (Sl.hi n)) := by
  rw [shift_shr .u64 .u64 u 32 (by omega) (by show (32 : Int) ≤ 64; omega)]
  unfold Sl.hi
  rw [hu']
  rfl
 have han : bits .and .u64 u 4294967295 = Sl.lo n := by
  have := bits_mask .u64 64 (by decide) (fun n h0 h1 => by rw [IntKind.wrap_u64]; omega) 32 (by decide) u hu0 (by omega)
  unfold Sl.lo
  rw [hu']
  exact this
 have hwh : IntKind.i64.wrap (Sl.hi n) = Sl.hi n := IntWalk.i64_in _ (by omega)
 have hwl : IntKind.i64.wrap (Sl.lo n) = Sl.lo n := IntWalk.i64_in _ (by omega)
 have l1 : (Wh.four x).length ≤ 4 := Nat.le_refl _
 have l2 : (Wh.four (Sl.hi n)).length ≤ 4 := Nat.le_refl _
 have l3 : (Wh.four (Sl.lo n)).length ≤ 4 := Nat.le_refl _
 obtain ⟨j0, hj0, hy0, hy1, hy2⟩ := info_parts u8info
 have HJ := Lib.hid hj0
 have HY := Lib.hid (And.intro hy0 (And.intro hy1 hy2))
 clear hj0 hy0 hy1 hy2 hu' hx
 generalize Wh.four x = X at *
 generalize Wh.four (Sl.hi n) = Y at *
 generalize Wh.four (Sl.lo n) = Z at *
 generalize Sl.hi n = h at *
 generalize Sl.lo n = l at *
 rcases hc with ⟨hc, rfl⟩ | ⟨hc, hc2, rfl⟩ | ⟨hc, rfl⟩
 all_goals
  go_enter Tryz.func77, Tryz.ntmps77
  go_wp2_with first
   | (go_at_call 48; (with_reducible refine (HX.out _).mono ?_); rintro e w1 ⟨v1, rfl, ho1, hb1⟩; have HB1 : Hid (Below w.heap.size w w1) := Lib.hid (lowBox' (hb1.mono (by simp))); have hz1 := HB1.out.size; have HO1 := Lib.hid (OwnB.base ho1 (a := w.heap.size) (by simp)); obtain ⟨A1, c1, rfl, hr1⟩ := ho1.lit; have k0 := (hb1.cell (p := ⟨w.heap.size, 0, none⟩) (by simp)); have k1 := (hb1.cell (p := ⟨w.heap.size, 1, none⟩) (by simp)); simp [go_sem] at k0 k1; clear ho1 hb1 hr1)
   | (go_at_call 48; (with_reducible refine (HH.out w1).mono ?_); rintro e w2 ⟨v2, rfl, ho2, hb2⟩; have HB2 : Hid (Below w.heap.size w w2) := Lib.hid (HB1.out.trans (hb2.mono hz1)); have hz2 := HB2.out.size; have HO1' := Lib.hid (OwnB.below HO1.out hb2); obtain ⟨A2, c2, rfl, hr2⟩ := ho2.lit; have HR2 := Lib.hid hr2; clear ho2 hb2 hr2)
   | (at_builtin; refine wpList_app _ rfl (.tmp 13) (.tmp 17) 45 rfl w.heap.size 5 j0 (.int .u8 0) 1 1 Tryz.underlying45 HJ.out HY.out.1 HY.out.2.1 HY.out.2.2 rfl (by decide) (.slice A1 X.length c1) X.length (by8 X) rfl HO1'.out _ A2 Y.length c2 (by8 Y) rfl (by rw [by8_len]; omega) HR2.out (by8_one _) (by unfold maxLen; omega) (by omega) hz2 ?_; intro v3 w3 hown3 hg3 hat3 hnil3; have HB3 : Hid (Below w.heap.size w w3) := Lib.hid (HB2.out.grown hg3 (by omega) (fun g e => (own_lt HO1'.out g e).1)); have hz3 := HB3.out.size; obtain ⟨XY, HXY, hl3, HO3⟩ : ∃ XY, Hid (XY = X ++ Y) ∧ XY.length ≤ 8 ∧ Hid (OwnB w.heap.size w3 v3 XY) := ⟨_, Lib.hid rfl, by rw [List.length_append]; omega, Lib.hid (own_more (X := X) (Y := Y) rfl hown3)⟩; obtain ⟨A3, c3, rfl, hr3⟩ := HO3.out.lit; clear hown3 hg3 hat3 hnil3 hr3)
   | (go_at_call 48; (with_reducible refine (HL.out w3).mono ?_); rintro e w4 ⟨v4, rfl, ho4, hb4⟩; have HB4 : Hid (Below w.heap.size w w4) := Lib.hid (HB3.out.trans (hb4.mono hz3)); have hz4 := HB4.out.size; have HO3' := Lib.hid (OwnB.below HO3.out hb4); obtain ⟨A4, c4, rfl, hr4⟩ := ho4.lit; have HR4 := Lib.hid hr4; clear ho4 hb4 hr4)
   | (at_builtin; refine wpList_app _ rfl (.tmp 19) (.tmp 23) 45 rfl w.heap.size 5 j0 (.int .u8 0) 1 1 Tryz.underlying45 HJ.out HY.out.1 HY.out.2.1 HY.out.2.2 rfl (by decide) (.slice A3 XY.length c3) XY.length (by8 XY) rfl HO3'.out _ A4 Z.length c4 (by8 Z) rfl (by rw [by8_len]; omega) HR4.out (by8_one _) (by unfold maxLen; omega) (by omega) hz4 ?_; intro v5 w5 hown5 hg5 hat5 hnil5; have HB5 : Hid (Below w.heap.size w w5) := Lib.hid (HB4.out.grown hg5 (by omega) (fun g e => (own_lt HO3'.out g e).1)); have HO5 := Lib.hid (own_more (X := XY) (Y := Z) rfl hown5); obtain ⟨A5, c5, rfl, hr5⟩ := HO5.out.lit; clear hown5 hg5 hat5 hnil5 hr5)
  go_ret
  exact ⟨_, rfl, by have h5 := HO5.out; rw [List.length_append] at h5; rw [HE.out, ← HXY.out]; exact h5, HB5.out⟩
theorem rsencode_any (a n : Int) (w : World) :
 Calls Tryz.prog 77 #[.agg #[.int .i64 a, .int .i64 n]] w fun e w' => ∃ v, e = .returned v ∧ OwnB w.heap.size w' v (Sl.enc a n) ∧ Below w.heap.size w w' :=
 rsencode_core a n _ w rfl (by unfold Sl.lim; omega)
end
section
open Go.RowKit Go.Sort
open Me
theorem By.of {w : World} {G : Nat → Prop} {A : Option Addr} {l : List UInt8} (h : Rd w G A (by8 l)) (hl : 0 < l.length) : ∃ b off, A = some ⟨b, off, none⟩ ∧ By w b off l := by
 obtain ⟨b, off, e, h1, _, h3⟩ := Rd.lit h 0 (by rw [by8_len]; exact hl)
 refine ⟨b, off, e, h1, fun j hj => ?_⟩
 have : Wh.byt l j = l[j].toNat := by unfold Wh.byt; rw [List.getD_eq_getElem?_getD, List.getElem?_eq_getElem hj]; rfl
 rw [this]
 exact h3 j _ (by8_get l j hj)
theorem By.take {w : World} {b off : Nat} {l : List UInt8} (h : By w b off l) (n : Nat) (_ : n ≤ l.length) : By w b off (l.take n) :=
 ⟨h.lt, fun j hj => by
  rw [List.length_take] at hj
  have : Wh.byt (l.take n) j = Wh.byt l j := by unfold Wh.byt; rw [List.getD_eq_getElem?_getD, List.getD_eq_getElem?_getD, List.getElem?_take, if_pos (by omega)]
  rw [this]; exact h.at_ j (by omega)⟩
theorem By.drop {w : World} {b off : Nat} {l : List UInt8} (h : By w b off l) (n : Nat) : By w b (off + n) (l.drop n) :=
 ⟨h.lt, fun j hj => by
  rw [List.length_drop] at hj
  have : Wh.byt (l.drop n) j = Wh.byt l (n + j) := by unfold Wh.byt; rw [List.getD_eq_getElem?_getD, List.getD_eq_getElem?_getD, List.getElem?_drop]
  rw [this, Nat.add_assoc]; exact h.at_ (n + j) (by omega)⟩
end
section
open Go.RowKit Go.Sort
open Me
namespace Sl
def wr64 (z : Int) : Int := (z + 9223372036854775808) % 18446744073709551616 - 9223372036854775808
def acc (l : List UInt8) : Int := l.foldl (fun n x => wr64 (n * 256) + (x.toNat : Int)) 0
theorem acc_snoc (l : List UInt8) (c : UInt8) : acc (l ++ [c]) = wr64 (acc l * 256) + (c.toNat : Int) := by unfold acc; rw [List.foldl_append]; rfl
theorem wr_low (z : Int) : wr64 (z * 256) % 256 = 0 ∧ -9223372036854775808 ≤ wr64 (z * 256) ∧ wr64 (z * 256) ≤ 9223372036854775552 := by unfold wr64; omega
theorem acc_take (l : List UInt8) (k : Nat) (h : k < l.length) : acc (l.take (k + 1)) = wr64 (acc (l.take k) * 256) + (Wh.byt l k : Int) := by
 rw [List.take_succ_eq_append_getElem h, acc_snoc]
 have : Wh.byt l k = l[k].toNat := by unfold Wh.byt; rw [List.getD_eq_getElem?_getD, List.getElem?_eq_getElem h]; rfl
 rw [this]
theorem or_low (x y : Int) (hx : x % 256 = 0) (h1 : -9223372036854775808 ≤ x) (h2 : x ≤ 9223372036854775552) (y1 : 0 ≤ y) (y2 : y < 256) : bits .or .i64 x y = x + y := by
 have e : bits .or .i64 x y = IntKind.i64.wrap (((BitVec.ofInt 64 x ||| BitVec.ofInt 64 y).toNat : Nat) : Int) := rfl
 rw [e, BitVec.toNat_or, BitVec.toNat_ofInt, BitVec.toNat_ofInt]
 have p : ((2 ^ 64 : Nat) : Int) = 18446744073709551616 := rfl
 rw [p]
 have hy : (y % 18446744073709551616).toNat < 2 ^ 8 := by show _ < 256; omega
 have hq : (x % 18446744073709551616).toNat = 2 ^ 8 * ((x % 18446744073709551616).toNat / 2 ^ 8) := by show _ = 256 * (_ / 256); omega
 rw [hq, ← Nat.two_pow_add_eq_or_of_lt hy, ← hq, IntKind.wrap_i64]
 omega
end Sl
theorem snumber_any (l : List UInt8) (b off cap : Nat) (w : World) (h : By w b off l) (hl : l.length ≤ 100) :
 Calls Tryz.prog 128 #[.slice (some ⟨b, off, none⟩) l.length cap] w fun e w' => e = .returned (.int .i64 (Sl.acc l)) ∧ w = w' := by
 have HB := Lib.hid h
 have HT := Lib.hid (Sl.acc_take l)
 have hlt := h.lt
 have h0 : Hid (Sl.acc (l.take 0) = 0) := Lib.hid rfl
 have hlI : (l.length : Int) ≤ 100 := by omega
 clear h
 go_enter Tryz.func128, Tryz.ntmps128
 go_wp2_with fail
 go_loopw [3, 8] (fun n i wr => ∃ k : Nat, k ≤ l.length ∧ i = .int .i64 k ∧ n = .int .i64 (Sl.acc (l.take k)) ∧ wr = w) (fun _ i _ => l.length - (intOf i).toNat)
 case atStart => exact ⟨0, Nat.zero_le _, rfl, by rw [h0.out], rfl⟩
 case round =>
  obtain ⟨k, hk, rfl, rfl, rfl⟩ := hrel
  by_cases hkl : k < l.length
  ·have hcell := HB.out.at_ k hkl
   have hbl := Wh.by_lt l k
   obtain ⟨a1, a2, a3⟩ := Sl.wr_low (Sl.acc (l.take k))
   have hT := HT.out k hkl
   have hor := Sl.or_low (Sl.wr64 (Sl.acc (l.take k) * 256)) (Wh.byt l k) a1 a2 a3 (by omega) (by omega)
   rw [← hT] at hor
   have hw : IntKind.i64.wrap (Sl.acc (l.take k) * 256) = Sl.wr64 (Sl.acc (l.take k) * 256) := by rw [IntKind.wrap_i64]; rfl
   clear hT a1 a2 a3
   generalize hq : Sl.acc (l.take (k + 1)) = q at *
   have HQ := Lib.hid hq
   clear hq
   generalize Sl.wr64 (Sl.acc (l.take k) * 256) = s at *
   generalize Sl.acc (l.take k) = a at *
   generalize Wh.byt l k = c at *
   go_wp2_with fail
   go_roundw
   case rel => exact ⟨k + 1, by omega, by go_num, by rw [HQ.out], trivial⟩
   case measure => simp [intOf]; omega
  ·obtain rfl : k = l.length := by omega
   rw [List.take_length]
   go_wp2_with fail
   go_ret
   exact ⟨rfl, rfl⟩
namespace Sl
theorem wr_small (z : Int) (h1 : 0 ≤ z) (h2 : z < 9223372036854775808) : wr64 z = z := by unfold wr64; omega
def dn (l : List UInt8) : Int := wr64 (Wh.nm l 4 * 4294967296 + Wh.nm l 8)
theorem twelve {l : List UInt8} (h : l.length = 12) : ∃ c0 c1 c2 c3 c4 c5 c6 c7 c8 c9 c10 c11, l = [c0, c1, c2, c3, c4, c5, c6, c7, c8, c9, c10, c11] := by
 match l, h with
 | [c0, c1, c2, c3, c4, c5, c6, c7, c8, c9, c10, c11], _ => exact ⟨c0, c1, c2, c3, c4, c5, c6, c7, c8, c9, c10, c11, rfl⟩
theorem four_step (x1 x2 x3 x4 c0 c1 c2 c3 : Int) (h0 : 0 ≤ c0 ∧ c0 < 256) (h1 : 0 ≤ c1 ∧ c1 < 256) (h2 : 0 ≤ c2 ∧ c2 < 256)
 (a1 : x1 = wr64 (0 * 256) + c0) (a2 : x2 = wr64 (x1 * 256) + c1) (a3 : x3 = wr64 (x2 * 256) + c2) (a4 : x4 = wr64 (x3 * 256) + c3) : x4 = ((c0 * 256 + c1) * 256 + c2) * 256 + c3 := by
 rw [wr_small (0 * 256) (by omega) (by omega)] at a1
 rw [wr_small (x1 * 256) (by omega) (by omega)] at a2
 rw [wr_small (x2 * 256) (by omega) (by omega)] at a3
 rw [wr_small (x3 * 256) (by omega) (by omega)] at a4
 omega
theorem eight_step (x4 x5 x6 x7 x8 c4 c5 c6 c7 : Int) (h : 0 ≤ x4 ∧ x4 < 4294967296) (h0 : 0 ≤ c4 ∧ c4 < 256) (h1 : 0 ≤ c5 ∧ c5 < 256) (h3 : 0 ≤ c7 ∧ c7 < 256)
 (a5 : x5 = wr64 (x4 * 256) + c4) (a6 : x6 = wr64 (x5 * 256) + c5) (a7 : x7 = wr64 (x6 * 256) + c6) (a8 : x8 = wr64 (x7 * 256) + c7) : x8 = wr64 (x4 * 4294967296 + (((c4 * 256 + c5) * 256 + c6) * 256 + c7)) := by
 rw [wr_small (x4 * 256) (by omega) (by omega)] at a5
 rw [wr_small (x5 * 256) (by omega) (by omega)] at a6
 rw [wr_small (x6 * 256) (by omega) (by omega)] at a7
 have hz : x4 * 4294967296 + (((c4 * 256 + c5) * 256 + c6) * 256 + c7) = x7 * 256 + c7 := by omega
 rw [hz, a8]
 clear hz a5 a6 a7 a8
 unfold wr64
 omega
theorem u8_bd (c : UInt8) : 0 ≤ (c.toNat : Int) ∧ (c.toNat : Int) < 256 := by have := c.toNat_lt; omega
theorem acc4 (c0 c1 c2 c3 : UInt8) : acc [c0, c1, c2, c3] = (((c0.toNat : Int) * 256 + c1.toNat) * 256 + c2.toNat) * 256 + c3.toNat :=
 four_step _ _ _ _ _ _ _ _ (u8_bd c0) (u8_bd c1) (u8_bd c2) (acc_snoc [] c0) (acc_snoc [c0] c1) (acc_snoc [c0, c1] c2) (acc_snoc [c0, c1, c2] c3)
theorem acc8 (c0 c1 c2 c3 c4 c5 c6 c7 : UInt8) : acc [c0, c1, c2, c3, c4, c5, c6, c7] = wr64 (((((c0.toNat : Int) * 256 + c1.toNat) * 256 + c2.toNat) * 256 + c3.toNat) * 4294967296 + ((((c4.toNat : Int) * 256 + c5.toNat) * 256 + c6.toNat) * 256 + c7.toNat)) := by
 rw [← acc4 c0 c1 c2 c3]
 refine eight_step _ _ _ _ _ _ _ _ _ ?_ (u8_bd c4) (u8_bd c5) (u8_bd c7) (acc_snoc [c0, c1, c2, c3] c4) (acc_snoc [c0, c1, c2, c3, c4] c5) (acc_snoc [c0, c1, c2, c3, c4, c5] c6) (acc_snoc [c0, c1, c2, c3, c4, c5, c6] c7)
 rw [acc4]
 have := u8_bd c0
 have := u8_bd c1
 have := u8_bd c2
 have := u8_bd c3
 omega
theorem acc_at {l : List UInt8} (h : l.length = 12) : acc (l.take 4) = Wh.nm l 0 := by
 obtain ⟨c0, c1, c2, c3, c4, c5, c6, c7, c8, c9, c10, c11, rfl⟩ := twelve h
 refine (acc4 c0 c1 c2 c3).trans ?_
 show _ = (c0.toNat : Int) * 16777216 + c1.toNat * 65536 + c2.toNat * 256 + c3.toNat
 omega
theorem acc_n {l : List UInt8} (h : l.length = 12) : acc (l.drop 4) = dn l := by
 obtain ⟨c0, c1, c2, c3, c4, c5, c6, c7, c8, c9, c10, c11, rfl⟩ := twelve h
 refine (acc8 c4 c5 c6 c7 c8 c9 c10 c11).trans ?_
 have n1 : Wh.nm [c0, c1, c2, c3, c4, c5, c6, c7, c8, c9, c10, c11] 4 = (c4.toNat : Int) * 16777216 + c5.toNat * 65536 + c6.toNat * 256 + c7.toNat := rfl
 have n2 : Wh.nm [c0, c1, c2, c3, c4, c5, c6, c7, c8, c9, c10, c11] 8 = (c8.toNat : Int) * 16777216 + c9.toNat * 65536 + c10.toNat * 256 + c11.toNat := rfl
 unfold dn
 rw [n1, n2]
 have e1 : (((c4.toNat : Int) * 256 + c5.toNat) * 256 + c6.toNat) * 256 + c7.toNat = (c4.toNat : Int) * 16777216 + c5.toNat * 65536 + c6.toNat * 256 + c7.toNat := by omega
 have e2 : (((c8.toNat : Int) * 256 + c9.toNat) * 256 + c10.toNat) * 256 + c11.toNat = (c8.toNat : Int) * 16777216 + c9.toNat * 65536 + c10.toNat * 256 + c11.toNat := by omega
 rw [e1, e2]
theorem dn_bd (l : List UInt8) : -9223372036854775808 ≤ dn l ∧ dn l ≤ 9223372036854775807 := by unfold dn wr64; omega
theorem bt_nat (n : Int) (k : Nat) : ((bt n k).toNat : Int) = n / (2 : Int) ^ (8 * k) % 256 := by unfold bt; exact Wh.u8of _
theorem back_at (a n : Int) : Wh.nm (enc a n) 0 = lim a := by
 have b := lim_bd a
 show (((bt (lim a) 3).toNat : Int)) * 16777216 + (bt (lim a) 2).toNat * 65536 + (bt (lim a) 1).toNat * 256 + (bt (lim a) 0).toNat = lim a
 obtain ⟨p7, p6, p5, p4, p3, p2, p1, p0⟩ := pw
 rw [bt_nat, bt_nat, bt_nat, bt_nat, p3, p2, p1, p0, Int.ediv_one]
 omega
theorem back_n (a n : Int) (h1 : -9223372036854775808 ≤ n) (h2 : n ≤ 9223372036854775807) : dn (enc a n) = n := by
 have e : dn (enc a n) = wr64 ((((bt n 7).toNat : Int) * 16777216 + (bt n 6).toNat * 65536 + (bt n 5).toNat * 256 + (bt n 4).toNat) * 4294967296 + (((bt n 3).toNat : Int) * 16777216 + (bt n 2).toNat * 65536 + (bt n 1).toNat * 256 + (bt n 0).toNat)) := rfl
 obtain ⟨p7, p6, p5, p4, p3, p2, p1, p0⟩ := pw
 rw [e, bt_nat, bt_nat, bt_nat, bt_nat, bt_nat, bt_nat, bt_nat, bt_nat, p7, p6, p5, p4, p3, p2, p1, p0, Int.ediv_one]
 have hz : (n / 72057594037927936 % 256 * 16777216 + n / 281474976710656 % 256 * 65536 + n / 1099511627776 % 256 * 256 + n / 4294967296 % 256) * 4294967296 + (n / 16777216 % 256 * 16777216 + n / 65536 % 256 * 65536 + n / 256 % 256 * 256 + n % 256) = n % 18446744073709551616 := by omega
 rw [hz]
 unfold wr64
 omega
end Sl
end
end Go.Proofs.YtljlanhpjpjgaaaGreatDoor
