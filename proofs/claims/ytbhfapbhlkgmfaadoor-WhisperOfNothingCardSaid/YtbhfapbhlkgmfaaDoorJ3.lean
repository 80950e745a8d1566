/-
  SlPut: CONTRACTS: chapter 5's writer: numbers put as bytes, the most significant one first; what was put taken out.
  SlEnc: CONTRACTS: chapter 5's Encode, on both sides.
  SlREnc: CONTRACT: chapter 5's Encode as the document has it.
  ByOf: BYTES THAT LIE AT AN ADDRESS: out of a row that is read; parts of them. For every seat.
  SlDec: CONTRACTS: chapter 5's Decode, on both sides.
  SlDecY: CONTRACTS: chapter 5's Decode, on both sides: of any bytes.
  CopyB: BYTES: a copy into a row of the call's own; an append onto an empty slice (`append([]byte{}, b...)`). For every seat.
  Inv: A LAW FOR A REGION THAT DRAWS ITS ORDER: what each operation owes by itself, whatever came up before it: one proof an operation, not one an order. No program is named here.
  SlWr: CONTRACTS: chapter 5's Writes, on both sides.
  FxOps: CONTRACTS: sums, differences, the value without its sign, what is below what; the document's own beside them.
  QtTail: A REGION THAT DRAWS ITS ORDER, ALL OF WHOSE OPERATIONS BUT THE LAST ARE QUIET IN A CLASS OF WORLDS, AND WHOSE LAST ONE WAITS FOR ALL THE OTHERS (a store of what was reckoned): walked once, in the order of the text; the last one behind it.
  FxAdd: CONTRACTS: sums of many values.
  FxMdPure: THE PLAIN MATHEMATICS of MulDiv: the product by a third number, to the nearest, halves away from 0; and the same bit by bit.
-/
import Derived.Test.YtbhfapbhlkgmfaaDoorJ2
import Derived.Deep.RegionLaw
import Derived.Laws.Bits64
import Derived.Deep.RegionWith
import Derived.Laws.CopyRow
import Derived.Orders
import Derived.Lib.Hide
import Derived.Deep.DeepCutAuto
import Derived.Test.YtbhfapbhlkgmfaaDoorJ1
import Derived.StillTailTactics
import Derived.Lib.QuietBelow

namespace Go.Proofs.YtbhfapbhlkgmfaaDoor
open Go.RowKit Go.Sort
open Me

namespace Sl
/-- The byte of n that stands k bytes ahead of its end. -/
def bt (n : Int) (k : Nat) : UInt8 := UInt8.ofNat ((n / (2 : Int) ^ (8 * k)) % 256).toNat
def lim (a : Int) : Int := min (max a 0) 4294967295
def beb (n : Int) : Nat → List UInt8
  | 0 => []
  | k + 1 => bt n k :: beb n k
theorem beb_len (n : Int) (k : Nat) : (beb n k).length = k := by induction k with
  | zero => rfl
  | succ k ih => unfold beb; simp [ih]
theorem by8_bt (n : Int) (k : Nat) : by8 [bt n k] = [.int .u8 (n / (2 : Int) ^ (8 * k) % 256)] := by
  unfold by8 bt
  simp only [List.map_cons, List.map_nil, Wh.u8of]
/-- A point's memory: its row, its numbers. -/
def ptC (v : Value) (a n : Int) : Obj := .cells #[v, .int .i64 a, .int .i64 n] 133
/-- A point whose row is L. -/
def Pst (w0 : World) (g : Nat) (lr : Option Nat) (a n : Int) (L : List UInt8) (w : World) : Prop :=
  ∃ v, w.heap[g]? = some (ptC v a n) ∧ OwnB 0 w v L ∧ Kp (fun b => b = g ∨ lr = some b) w0 w ∧ (v.ownBlock = lr ∨ ∃ b, v.ownBlock = some b ∧ w0.heap.size ≤ b)
theorem pt_cells {w : World} {g : Nat} {v : Value} {a n : Int} (h : w.heap[g]? = some (ptC v a n)) :
    w.cell? ⟨g, 0, none⟩ = some v ∧ w.cell? ⟨g, 1, none⟩ = some (.int .i64 a) ∧ w.cell? ⟨g, 2, none⟩ = some (.int .i64 n) ∧ (∀ i, w.frozen? ⟨g, i, none⟩ = false) ∧ g < w.heap.size := by
  unfold ptC at h
  refine ⟨?_, ?_, ?_, fun i => ?_, (Array.getElem?_eq_some_iff.1 h).1⟩
  · rw [cell_of_row w g 0 _ _ (0, 0) h]; rfl
  · rw [cell_of_row w g 1 _ _ (0, 0) h]; rfl
  · rw [cell_of_row w g 2 _ _ (0, 0) h]; rfl
  · simp [World.frozen?, h]
theorem row_ne {w : World} {g : Nat} {v v' : Value} {a n : Int} {L : List UInt8} (h : w.heap[g]? = some (ptC v' a n)) (ho : OwnB 0 w v L) : v.ownBlock ≠ some g := by
  intro e
  rcases ho.2 with ⟨rfl, _⟩ | ⟨g', cap, cur, rfl, _, hh, _⟩
  · cases e
  · have : g' = g := by simpa [Value.ownBlock] using e
    subst this
    rw [h] at hh
    unfold ptC at hh
    simp at hh
theorem heap_cell0 {w : World} {g : Nat} {v : Value} {a n : Int} (h : w.heap[g]? = some (ptC v a n)) (u : Value) : (w.setCell ⟨g, 0, none⟩ u).heap[g]? = some (ptC u a n) := by
  unfold ptC at *
  simp [World.setCell, Array.getElem?_modify, h]
/-- Behind a byte's append and its store. -/
theorem Pst.put {w0 w w2 : World} {o : Obj} {g : Nat} {lr : Option Nat} {a n : Int} {X : List UInt8} {v v2 : Value} (hg : w.heap[g]? = some (ptC v a n)) (hk : Kp (fun b => b = g ∨ lr = some b) w0 w) (hfr : v.ownBlock = lr ∨ ∃ b, v.ownBlock = some b ∧ w0.heap.size ≤ b)
    (hne : v.ownBlock ≠ some g) (ho : OwnB 0 w2 v2 X) (hgr : (w.alloc o).grownBy w2 v.ownBlock) (hat : v2.ownBlock = v.ownBlock ∨ v2.ownBlock = some (w.alloc o).heap.size) : Pst w0 g lr a n X (w2.setCell ⟨g, 0, none⟩ v2) := by
  have gl : g < w.heap.size := (Array.getElem?_eq_some_iff.1 hg).1
  have h2 : w2.heap[g]? = some (ptC v a n) := (hgr.block g (by simp; omega) (fun e => hne e.symm)).trans ((Below.heap_alloc w o g gl).trans hg)
  refine ⟨v2, heap_cell0 h2 v2, owns_keep ho (fun b hb => Below.heap_setCell w2 ⟨g, 0, none⟩ _ b ?_), ?_, ?_⟩
  · show b ≠ g
    rintro rfl
    rcases hat with e | e
    · exact hne (e ▸ hb)
    · rw [hb] at e; simp at e; omega
  · refine ((hk.alloc o).grown hgr (fun b hb => ?_)).setCell ⟨g, 0, none⟩ (.inr (.inl rfl)) _
    rcases hfr with e | ⟨c, e, hc⟩
    · exact .inr (.inr (e ▸ hb))
    · rw [e] at hb
      injection hb with hb
      exact .inl (hb ▸ hc)
  · rcases hat with e | e
    · rw [e]; exact hfr
    · exact .inr ⟨_, e, Nat.le_trans hk.size (by simp)⟩
theorem Pst.drew {w0 w : World} {g : Nat} {lr : Option Nat} {a n : Int} {X : List UInt8} (h : Pst w0 g lr a n X w) : Pst w0 g lr a n X w.drew := by
  obtain ⟨v, h1, h2, h3, h4⟩ := h
  exact ⟨v, h1, h2, h3.drew, h4⟩
end Sl

set_option maxHeartbeats 2000000 in
theorem sput_any {w : World} {g : Nat} {v : Value} {a n : Int} {L : List UInt8} (hg : w.heap[g]? = some (Sl.ptC v a n)) (hown : OwnB 0 w v L) (hL : L.length ≤ 100) (x : Int) (size : Nat) (hs : size ≤ 8) :
    Calls Tryd.prog 78 #[.pointer (some ⟨g, 0, none⟩), .int .i64 x, .int .i64 size] w fun e w' => e = .returned (.tuple #[]) ∧ Sl.Pst w g v.ownBlock a n (L ++ Sl.beb x size) w' := by
  obtain ⟨j0, hj0, hy0, hy1, hy2⟩ := info_parts u8info
  have HJ := Lib.hid hj0
  have HY := Lib.hid (And.intro hy0 (And.intro hy1 hy2))
  clear hj0 hy0 hy1 hy2
  have H0 : Hid (Sl.Pst w g v.ownBlock a n L w) := Lib.hid ⟨v, hg, hown, Kp.refl _ _, .inl rfl⟩
  generalize v.ownBlock = lr at *
  clear hg hown
  go_enter Tryd.func78, Tryd.ntmps78
  go_wp2_with fail
  go_loopw [6] (fun i wr => ∃ (k : Nat) (X : List UInt8), k ≤ size ∧ i = .int .i64 ((k : Int) - 1) ∧ Hid (X ++ Sl.beb x k = L ++ Sl.beb x size) ∧ Hid (Sl.Pst w g lr a n X wr)) (fun i _ => (intOf i + 1).toNat)
  case atStart => exact ⟨size, L, Nat.le_refl _, rfl, Lib.hid rfl, H0⟩
  case round =>
    obtain ⟨k, X, hk, rfl, hx, hp⟩ := hrel
    obtain ⟨v, h1, h2, h3, h4⟩ := hp.out
    obtain ⟨d0, d1, d2, d3, d4⟩ := Sl.pt_cells h1
    have df := d3 0
    clear d3
    obtain ⟨A, m, c, rfl⟩ := own_slice h2
    cases k with
    | zero =>
      go_wp2_with fail
      ((try simp only [Exit.inBlock, Exit.then]); first | (refine bodyPost_ret (results_none rfl _ _ _) rfl ?_) | (refine bodyPost_end (results_none rfl _ _ _) rfl ?_))
      exact ⟨rfl, by have := hx.out; simp only [Sl.beb, List.append_nil] at this; rw [← this]; exact hp.out⟩
    | succ k =>
      have hki : ((k + 1 : Nat) : Int) - 1 = (k : Int) := by omega
      rw [hki]
      have hq8 := Sl.by8_bt x k
      have hkk : (k : Int) ≤ 7 := by omega
      obtain ⟨y, q, hwy, hsh, hz⟩ : ∃ y q : Int, IntKind.i64.wrap (8 * (k : Int)) = y ∧ Op.shift .shr .i64 x .i64 y = pure (.int .i64 q) ∧ IntKind.u8.wrap q = x / (2 : Int) ^ (8 * k) % 256 := by
        refine ⟨8 * (k : Int), x / (2 : Int) ^ (8 * k), IntWalk.i64_in _ (by omega), ?_, ?_⟩
        · rw [shift_shr .i64 .i64 x (8 * (k : Int)) (by omega) (by show _ ≤ (64 : Int); omega)]
          have : (8 * (k : Int)).toNat = 8 * k := by omega
          rw [this]
        · rw [IntKind.wrap_u8]
      generalize x / (2 : Int) ^ (8 * k) % 256 = z at *
      have HOW : Hid ((wr.alloc (.cells #[.int .u8 z] 5)).ownsRow 0 5 1 (.slice A m c) X.length (by8 X)) := Lib.hid (owns_keep h2 fun b hb => Below.heap_alloc _ _ _ (own_lt h2 b hb).2)
      have HRD : Hid (Rd (wr.alloc (.cells #[.int .u8 z] 5)) (fun b => b = wr.heap.size) (some ⟨wr.heap.size, 0, none⟩) [.int .u8 z]) := Lib.hid (Rd.fresh wr [.int .u8 z] 5 _ rfl)
      have hne := Sl.row_ne h1 h2
      have HNE := Lib.hid hne
      have HG := Lib.hid h1
      have HK := Lib.hid h3
      have HFR := Lib.hid h4
      have hXl : X.length ≤ 108 := by
        have := congrArg List.length hx.out
        rw [List.length_append, List.length_append, Sl.beb_len, Sl.beb_len] at this
        omega
      have hX2 : X.length + 1 ≤ maxLen := by unfold maxLen; omega
      have HXM : Hid (∀ w2 v2, w2.ownsRow 0 5 1 v2 (X.length + 1) (by8 X ++ [.int .u8 z]) → OwnB 0 w2 v2 (X ++ [Sl.bt x k])) := Lib.hid fun w2 v2 h => by
        refine own_more (Y := [Sl.bt x k]) rfl ?_
        rw [hq8]
        exact h
      have HXE : Hid ((X ++ [Sl.bt x k]) ++ Sl.beb x k = L ++ Sl.beb x size) := Lib.hid (by rw [← hx.out, List.append_assoc]; rfl)
      generalize X ++ [Sl.bt x k] = X2 at *
      clear hx hp h1 h2 h3 h4 hne hq8
      go_wp2_with fail
      go_region_law (refine step_app _ rfl (.tmp 17) (.tmp 23) 65 rfl 0 5 j0 (.int .u8 0) 1 1 Tryd.underlying65 HJ.out HY.out.1 HY.out.2.1 HY.out.2.2 rfl (by decide) (.slice A m c) X.length (by8 X) (by simp [Act.eval]) HOW.out (fun b => b = wr.heap.size) (some ⟨wr.heap.size, 0, none⟩) 1 1 [.int .u8 z] (by simp [Act.eval]) (by simp) HRD.out (by intro u hu; simp at hu; subst hu; rfl) hX2 (by omega) (Nat.zero_le _) ?_; intro v2 w2 hown2 hg2 hat2 hnil2; have d0' : w2.cell? ⟨g, 0, none⟩ = some (.slice A m c) := (hg2.cell_far ⟨g, 0, none⟩ (by show g < _; simp; omega) (fun e => HNE.out e.symm)).trans ((World.cell?_alloc_lt _ _ _ d4).trans d0); have df' : w2.frozen? ⟨g, 0, none⟩ = false := (hg2.frozen_far ⟨g, 0, none⟩ (by show g < _; simp; omega) (fun e => HNE.out e.symm)).trans ((World.frozen?_of_block (Below.heap_alloc _ _ g d4)).trans df); have HO2 := Lib.hid (HXM.out _ _ hown2); have HG2 := Lib.hid hg2; have HA2 := Lib.hid hat2; obtain ⟨A2, m2, c2, rfl⟩ := own_slice hown2; clear hown2 hg2 hat2 hnil2)
      all_goals
        go_wp2_with fail
        go_roundw
        case rel => exact ⟨k, X2, by omega, by go_num, HXE, Lib.hid (Sl.Pst.put (w := wr.drew) HG.out HK.out.drew HFR.out HNE.out HO2.out HG2.out HA2.out)⟩
        case measure => first | (simp [intOf]; done) | (simp [intOf]; omega)

/-- The row is taken out; a new one begins. -/
theorem stake_any {w : World} {g : Nat} {v : Value} {a n : Int} {L : List UInt8} (hg : w.heap[g]? = some (Sl.ptC v a n)) (hown : OwnB 0 w v L) :
    Calls Tryd.prog 79 #[.pointer (some ⟨g, 0, none⟩)] w fun e w' => e = .returned v ∧ w' = w.setCell ⟨g, 0, none⟩ (.slice none 0 0) := by
  obtain ⟨d0, _, _, d3, d4⟩ := Sl.pt_cells hg
  have df := d3 0
  obtain ⟨A, m, c, rfl⟩ := own_slice hown
  clear hg hown d3
  go_enter Tryd.func79, Tryd.ntmps79
  go_wp2_with fail
  go_ret
  exact ⟨rfl, rfl⟩

theorem pointOf_any (a n : Int) (w : World) :
    Calls Tryd.prog 77 #[.agg #[.int .i64 a, .int .i64 n]] w fun e w' => e = .returned (.pointer (some ⟨w.heap.size + 1, 0, none⟩)) ∧ w' = (w.alloc (.cells #[.int .i64 a, .int .i64 n] 26)).alloc (Sl.ptC (.slice none 0 0) (Sl.lim a) n) := by
  rcases (by omega : a < 0 ∨ (0 ≤ a ∧ a ≤ 4294967295) ∨ 4294967295 < a) with h | h | h
  · have H : Hid (Sl.lim a = 0) := Lib.hid (by unfold Sl.lim; omega)
    go_enter Tryd.func77, Tryd.ntmps77
    go_wp2_with fail
    go_ret
    exact ⟨rfl, by rw [H.out]; rfl⟩
  · have H : Hid (Sl.lim a = a) := Lib.hid (by unfold Sl.lim; omega)
    go_enter Tryd.func77, Tryd.ntmps77
    go_wp2_with fail
    go_ret
    exact ⟨rfl, by rw [H.out]; rfl⟩
  · have H : Hid (Sl.lim a = 4294967295) := Lib.hid (by unfold Sl.lim; omega)
    go_enter Tryd.func77, Tryd.ntmps77
    go_wp2_with fail
    go_ret
    exact ⟨rfl, by rw [H.out]; rfl⟩
end Go.Proofs.YtbhfapbhlkgmfaaDoor

namespace Go.Proofs.YtbhfapbhlkgmfaaDoor
open Go.RowKit Go.Sort
open Me

theorem OwnB.rebase {a b : Nat} {w : World} {v : Value} {l : List UInt8} (h : OwnB a w v l) (hb : ∀ g, v.ownBlock = some g → b ≤ g) : OwnB b w v l := by
  refine ⟨h.1, ?_⟩
  rcases h.2 with hn | ⟨g, cap, cur, hv, _, rest⟩
  · exact .inl hn
  · exact .inr ⟨g, cap, cur, hv, hb g (by rw [hv]; rfl), rest⟩

namespace Sl
def enc (a n : Int) : List UInt8 := beb (lim a) 4 ++ beb n 8
theorem enc_len (a n : Int) : (enc a n).length = 12 := by unfold enc; rw [List.length_append, beb_len, beb_len]
theorem Pst.chain {w0 w w' : World} {g : Nat} {lr : Option Nat} {a n : Int} {L' : List UInt8} {v : Value} (hk : Kp (fun b => b = g ∨ lr = some b) w0 w) (hfr : v.ownBlock = lr ∨ ∃ b, v.ownBlock = some b ∧ w0.heap.size ≤ b)
    (h' : Pst w g v.ownBlock a n L' w') : Pst w0 g lr a n L' w' := by
  obtain ⟨v', p1, p2, p3, p4⟩ := h'
  refine ⟨v', p1, p2, hk.trans p3 (fun i hi ho => ?_), ?_⟩
  · rcases ho with rfl | ho
    · exact .inl rfl
    · rcases hfr with e | ⟨b, e, hb⟩
      · exact .inr (e ▸ ho)
      · rw [e] at ho
        injection ho with ho
        omega
  · rcases p4 with e | ⟨b, e, hb⟩
    · rw [e]; exact hfr
    · exact .inr ⟨b, e, Nat.le_trans hk.size hb⟩
theorem Pst.lt {w0 w : World} {g : Nat} {lr : Option Nat} {a n : Int} {L : List UInt8} (h : Pst w0 g lr a n L w) : g < w.heap.size := by
  obtain ⟨v, h1, _⟩ := h
  exact (pt_cells h1).2.2.2.2
/-- A row that was taken stays, whatever is put behind it. -/
theorem Pst.keeps {w0 w : World} {g : Nat} {a n : Int} {L M : List UInt8} {u : Value} {base : Nat} (h : Pst w0 g none a n L w) (ho : OwnB base w0 u M) (hne : u.ownBlock ≠ some g) : OwnB base w u M := by
  obtain ⟨v, _, _, h3, _⟩ := h
  exact ho.kp h3 fun b hb hO => by
    rcases hO with rfl | hO
    · exact hne hb
    · cases hO
theorem Pst.below {w0 w : World} {B g : Nat} {a n : Int} {L : List UInt8} (h : Pst w0 g none a n L w) (hB : B ≤ w0.heap.size) (hg : B ≤ g) : Below B w0 w := by
  obtain ⟨v, _, _, h3, _⟩ := h
  exact h3.below hB fun i hi ho => by
    rcases ho with rfl | ho
    · omega
    · cases ho
/-- What taking out leaves. -/
theorem Pst.take {w0 w : World} {g : Nat} {a n : Int} {L : List UInt8} {v : Value} (h1 : w.heap[g]? = some (ptC v a n)) (h2 : OwnB 0 w v L) (h3 : Kp (fun b => b = g ∨ (none : Option Nat) = some b) w0 w) (h4 : v.ownBlock = none ∨ ∃ b, v.ownBlock = some b ∧ w0.heap.size ≤ b) :
    OwnB w0.heap.size (w.setCell ⟨g, 0, none⟩ (.slice none 0 0)) v L ∧ Kp (fun b => b = g) w0 (w.setCell ⟨g, 0, none⟩ (.slice none 0 0)) ∧ Pst (w.setCell ⟨g, 0, none⟩ (.slice none 0 0)) g none a n [] (w.setCell ⟨g, 0, none⟩ (.slice none 0 0)) ∧ v.ownBlock ≠ some g := by
  have hne := row_ne h1 h2
  refine ⟨?_, ?_, ⟨_, heap_cell0 h1 _, OwnB.nil _ _, Kp.refl _ _, .inl rfl⟩, hne⟩
  · refine (OwnB.rebase h2 fun b hb => ?_).kp (O := fun b => b = g) (Kp.setCell (O := fun b => b = g) (Kp.refl _ _) ⟨g, 0, none⟩ (.inr rfl) _) fun b hb e => hne (e ▸ hb)
    rcases h4 with e | ⟨c, e, hc⟩
    · rw [e] at hb; cases hb
    · rw [e] at hb; injection hb with hb; omega
  · refine Kp.setCell (O := fun b => b = g) (h3.mono fun i _ ho => ?_) ⟨g, 0, none⟩ (.inr rfl) _
    rcases ho with e | e
    · exact e
    · cases e
end Sl

section
variable {w0 w : World} {g : Nat} {lr : Option Nat} {a n : Int} {L : List UInt8}
theorem sput_P (h : Sl.Pst w0 g lr a n L w) (hL : L.length ≤ 100) (x : Int) (size : Nat) (hs : size ≤ 8) :
    Calls Tryd.prog 78 #[.pointer (some ⟨g, 0, none⟩), .int .i64 x, .int .i64 size] w fun e w' => e = .returned (.tuple #[]) ∧ Sl.Pst w0 g lr a n (L ++ Sl.beb x size) w' := by
  obtain ⟨v, h1, h2, h3, h4⟩ := h
  exact (sput_any h1 h2 hL x size hs).mono fun _ _ ⟨e, hp⟩ => ⟨e, Sl.Pst.chain h3 h4 hp⟩
theorem stake_P (h : Sl.Pst w0 g none a n L w) :
    Calls Tryd.prog 79 #[.pointer (some ⟨g, 0, none⟩)] w fun e w' => ∃ v, e = .returned v ∧ OwnB w0.heap.size w' v L ∧ Kp (fun b => b = g) w0 w' ∧ Sl.Pst w' g none a n [] w' ∧ v.ownBlock ≠ some g := by
  obtain ⟨v, h1, h2, h3, h4⟩ := h
  refine (stake_any h1 h2).mono ?_
  rintro e w' ⟨rfl, rfl⟩
  exact ⟨v, rfl, Sl.Pst.take h1 h2 h3 h4⟩
theorem pointOf_P (a n : Int) (w : World) :
    Calls Tryd.prog 77 #[.agg #[.int .i64 a, .int .i64 n]] w fun e w' => ∃ g, e = .returned (.pointer (some ⟨g, 0, none⟩)) ∧ w.heap.size ≤ g ∧ Sl.Pst w' g none (Sl.lim a) n [] w' ∧ Below w.heap.size w w' := by
  refine (pointOf_any a n w).mono ?_
  rintro e w' ⟨rfl, rfl⟩
  refine ⟨_, rfl, by omega, ⟨_, ?_, OwnB.nil _ _, Kp.refl _ _, .inl rfl⟩, (by repeat (first | exact Below.refl _ _ | assumption | refine Below.setCell ?_ (by first | (simp; done) | omega | (simp; omega) | (simp at *; omega)) _ | refine Below.alloc ?_ (by first | (simp; done) | omega | (simp; omega) | (simp at *; omega)) _ | refine Below.drew ?_ | (refine Below.trans ?_ (Below.mono (by assumption) (by first | (simp; done) | omega | (simp; omega) | (simp at *; omega)))) | (refine Below.trans ?_ (Below.mono (below_regrown _ _ _) (by first | (simp; done) | omega | (simp; omega) | (simp at *; omega))))))⟩
  have := heap_alloc_new (w.alloc (.cells #[.int .i64 a, .int .i64 n] 26)) (Sl.ptC (.slice none 0 0) (Sl.lim a) n)
  simpa using this

set_option maxHeartbeats 1000000 in
theorem putAt_P (h : Sl.Pst w0 g lr a n L w) (hL : L.length ≤ 100) :
    Calls Tryd.prog 81 #[.pointer (some ⟨g, 0, none⟩)] w fun e w' => e = .returned (.tuple #[]) ∧ Sl.Pst w0 g lr a n (L ++ Sl.beb a 4) w' := by
  have HC : Hid (∀ W : World, W.heap = w.heap → W.os = w.os → W.tape = w.tape → W.output = w.output → Calls Tryd.prog 78 #[.pointer (some ⟨g, 0, none⟩), .int .i64 a, .int .i64 4] W fun e w' => e = .returned (.tuple #[]) ∧ Sl.Pst w0 g lr a n (L ++ Sl.beb a 4) w') := Lib.hid fun W e1 e2 e3 e4 => by
    obtain ⟨v, h1, h2, h3, h4⟩ := h
    exact sput_P (w := W) ⟨v, by rw [e1]; exact h1, owns_keep h2 fun _ _ => by rw [e1], ⟨e2.trans h3.os, e3.trans h3.tape, e4.trans h3.output, by rw [e1]; exact h3.size, by rw [e1]; exact h3.block⟩, h4⟩ hL a 4 (by omega)
  have HCD := Lib.hid (HC.out w.drew rfl rfl rfl rfl)
  obtain ⟨v, h1, h2, h3, h4⟩ := h
  obtain ⟨d0, d1, d2, d3, d4⟩ := Sl.pt_cells h1
  clear h1 h2 h3 h4 d3
  go_enter Tryd.func81, Tryd.ntmps81
  go_wp2_with fail
  go_region_with (go_at_call 78; refine HCD.out.mono ?_; rintro e w' ⟨rfl, hp⟩; have HP := Lib.hid hp; clear hp)
  go_wp2_with fail
  ((try simp only [Exit.inBlock, Exit.then]); first | (refine bodyPost_ret (results_none rfl _ _ _) rfl ?_) | (refine bodyPost_end (results_none rfl _ _ _) rfl ?_))
  exact ⟨rfl, HP.out⟩

set_option maxHeartbeats 1000000 in
theorem putN_P (h : Sl.Pst w0 g lr a n L w) (hL : L.length ≤ 100) :
    Calls Tryd.prog 80 #[.pointer (some ⟨g, 0, none⟩)] w fun e w' => e = .returned (.tuple #[]) ∧ Sl.Pst w0 g lr a n (L ++ Sl.beb n 8) w' := by
  have HC : Hid (∀ W : World, W.heap = w.heap → W.os = w.os → W.tape = w.tape → W.output = w.output → Calls Tryd.prog 78 #[.pointer (some ⟨g, 0, none⟩), .int .i64 n, .int .i64 8] W fun e w' => e = .returned (.tuple #[]) ∧ Sl.Pst w0 g lr a n (L ++ Sl.beb n 8) w') := Lib.hid fun W e1 e2 e3 e4 => by
    obtain ⟨v, h1, h2, h3, h4⟩ := h
    exact sput_P (w := W) ⟨v, by rw [e1]; exact h1, owns_keep h2 fun _ _ => by rw [e1], ⟨e2.trans h3.os, e3.trans h3.tape, e4.trans h3.output, by rw [e1]; exact h3.size, by rw [e1]; exact h3.block⟩, h4⟩ hL n 8 (by omega)
  have HCD := Lib.hid (HC.out w.drew rfl rfl rfl rfl)
  obtain ⟨v, h1, h2, h3, h4⟩ := h
  obtain ⟨d0, d1, d2, d3, d4⟩ := Sl.pt_cells h1
  clear h1 h2 h3 h4 d3
  go_enter Tryd.func80, Tryd.ntmps80
  go_wp2_with fail
  go_region_with (go_at_call 78; refine HCD.out.mono ?_; rintro e w' ⟨rfl, hp⟩; have HP := Lib.hid hp; clear hp)
  go_wp2_with fail
  ((try simp only [Exit.inBlock, Exit.then]); first | (refine bodyPost_ret (results_none rfl _ _ _) rfl ?_) | (refine bodyPost_end (results_none rfl _ _ _) rfl ?_))
  exact ⟨rfl, HP.out⟩
end

end Go.Proofs.YtbhfapbhlkgmfaaDoor

namespace Go.Proofs.YtbhfapbhlkgmfaaDoor
open Go.RowKit Go.Sort
open Me

theorem OwnB.fresh (w : World) (l : List UInt8) (base : Nat) (hb : base ≤ w.heap.size) (hm : l.length ≤ 1048576) : OwnB base (w.alloc (.cells (by8 l).toArray 5)) (.slice (some ⟨w.heap.size, 0, none⟩) l.length l.length) l := by
  refine ⟨by rw [by8_len]; simp, .inr ⟨w.heap.size, l.length, _, rfl, hb, heap_alloc_new w _, Nat.le_refl _, by unfold maxLen; omega, by simp [by8_len], ?_⟩⟩
  rw [Nat.mul_one]
  exact List.take_of_length_le (by simp [by8_len])
theorem OwnB.lit {base : Nat} {w : World} {v : Value} {l : List UInt8} (h : OwnB base w v l) : ∃ A c, v = .slice A l.length c ∧ Rd w (fun i => v.ownBlock = some i) A (by8 l) := by
  obtain ⟨A, c, e, _, _, hr⟩ := Bs.own h
  refine ⟨A, c, e, ?_⟩
  subst e
  have h' : w.ownsRow base 5 1 (.slice A l.length c) l.length (by8 l) := h
  exact Rd.own h'

namespace Sl
def hi (n : Int) : Int := n % 18446744073709551616 / 4294967296
def lo (n : Int) : Int := n % 18446744073709551616 % 4294967296
theorem pw : (2 : Int) ^ (8 * 7) = 72057594037927936 ∧ (2 : Int) ^ (8 * 6) = 281474976710656 ∧ (2 : Int) ^ (8 * 5) = 1099511627776 ∧ (2 : Int) ^ (8 * 4) = 4294967296 ∧ (2 : Int) ^ (8 * 3) = 16777216 ∧ (2 : Int) ^ (8 * 2) = 65536 ∧ (2 : Int) ^ (8 * 1) = 256 ∧ (2 : Int) ^ (8 * 0) = 1 := by
  refine ⟨rfl, rfl, rfl, rfl, rfl, rfl, rfl, rfl⟩
theorem enc_four (a n : Int) : enc a n = Wh.four (lim a) ++ Wh.four (hi n) ++ Wh.four (lo n) := by
  obtain ⟨p7, p6, p5, p4, p3, p2, p1, p0⟩ := pw
  unfold enc beb beb beb beb beb beb beb beb beb bt Wh.four
  simp only [p7, p6, p5, p4, p3, p2, p1, p0, Int.ediv_one, List.cons_append, List.nil_append]
  have e7 : n / 72057594037927936 % 256 = hi n / 16777216 % 256 := by unfold hi; omega
  have e6 : n / 281474976710656 % 256 = hi n / 65536 % 256 := by unfold hi; omega
  have e5 : n / 1099511627776 % 256 = hi n / 256 % 256 := by unfold hi; omega
  have e4 : n / 4294967296 % 256 = hi n % 256 := by unfold hi; omega
  have e3 : n / 16777216 % 256 = lo n / 16777216 % 256 := by unfold lo; omega
  have e2 : n / 65536 % 256 = lo n / 65536 % 256 := by unfold lo; omega
  have e1 : n / 256 % 256 = lo n / 256 % 256 := by unfold lo; omega
  have e0 : n % 256 = lo n % 256 := by unfold lo; omega
  rw [e7, e6, e5, e4, e3, e2, e1, e0]
theorem hi_bd (n : Int) : 0 ≤ hi n ∧ hi n ≤ 4294967295 := by unfold hi; omega
theorem lo_bd (n : Int) : 0 ≤ lo n ∧ lo n ≤ 4294967295 := by unfold lo; omega
theorem lim_bd (a : Int) : 0 ≤ lim a ∧ lim a ≤ 4294967295 := by unfold lim; omega
end Sl

end Go.Proofs.YtbhfapbhlkgmfaaDoor

namespace Go.Proofs.YtbhfapbhlkgmfaaDoor
open Go.RowKit Go.Sort
open Me

theorem By.of {w : World} {G : Nat → Prop} {A : Option Addr} {l : List UInt8} (h : Rd w G A (by8 l)) (hl : 0 < l.length) : ∃ b off, A = some ⟨b, off, none⟩ ∧ By w b off l := by
  obtain ⟨b, off, e, h1, _, h3⟩ := Rd.lit h 0 (by rw [by8_len]; exact hl)
  refine ⟨b, off, e, h1, fun j hj => ?_⟩
  have : Wh.byt l j = l[j].toNat := by unfold Wh.byt; rw [List.getD_eq_getElem?_getD, List.getElem?_eq_getElem hj]; rfl
  rw [this]
  exact h3 j _ (by8_get l j hj)
theorem By.take {w : World} {b off : Nat} {l : List UInt8} (h : By w b off l) (n : Nat) (_ : n ≤ l.length) : By w b off (l.take n) :=
  ⟨h.lt, fun j hj => by
    rw [List.length_take] at hj
    have : Wh.byt (l.take n) j = Wh.byt l j := by unfold Wh.byt; rw [List.getD_eq_getElem?_getD, List.getD_eq_getElem?_getD, List.getElem?_take, if_pos (by omega)]
    rw [this]; exact h.at_ j (by omega)⟩
theorem By.drop {w : World} {b off : Nat} {l : List UInt8} (h : By w b off l) (n : Nat) : By w b (off + n) (l.drop n) :=
  ⟨h.lt, fun j hj => by
    rw [List.length_drop] at hj
    have : Wh.byt (l.drop n) j = Wh.byt l (n + j) := by unfold Wh.byt; rw [List.getD_eq_getElem?_getD, List.getD_eq_getElem?_getD, List.getElem?_drop]
    rw [this, Nat.add_assoc]; exact h.at_ (n + j) (by omega)⟩
end Go.Proofs.YtbhfapbhlkgmfaaDoor

namespace Go.Proofs.YtbhfapbhlkgmfaaDoor
open Go.RowKit Go.Sort
open Me

namespace Sl
def wr64 (z : Int) : Int := (z + 9223372036854775808) % 18446744073709551616 - 9223372036854775808
def acc (l : List UInt8) : Int := l.foldl (fun n x => wr64 (n * 256) + (x.toNat : Int)) 0
def be (l : List UInt8) : Int := l.foldl (fun n x => n * 256 + (x.toNat : Int)) 0
theorem acc_snoc (l : List UInt8) (c : UInt8) : acc (l ++ [c]) = wr64 (acc l * 256) + (c.toNat : Int) := by unfold acc; rw [List.foldl_append]; rfl
theorem be_snoc (l : List UInt8) (c : UInt8) : be (l ++ [c]) = be l * 256 + (c.toNat : Int) := by unfold be; rw [List.foldl_append]; rfl
theorem wr_low (z : Int) : wr64 (z * 256) % 256 = 0 ∧ -9223372036854775808 ≤ wr64 (z * 256) ∧ wr64 (z * 256) ≤ 9223372036854775552 := by unfold wr64; omega
theorem acc_take (l : List UInt8) (k : Nat) (h : k < l.length) : acc (l.take (k + 1)) = wr64 (acc (l.take k) * 256) + (Wh.byt l k : Int) := by
  rw [List.take_succ_eq_append_getElem h, acc_snoc]
  have : Wh.byt l k = l[k].toNat := by unfold Wh.byt; rw [List.getD_eq_getElem?_getD, List.getElem?_eq_getElem h]; rfl
  rw [this]
theorem or_low (x y : Int) (hx : x % 256 = 0) (h1 : -9223372036854775808 ≤ x) (h2 : x ≤ 9223372036854775552) (y1 : 0 ≤ y) (y2 : y < 256) : bits .or .i64 x y = x + y := by
  have e : bits .or .i64 x y = IntKind.i64.wrap (((BitVec.ofInt 64 x ||| BitVec.ofInt 64 y).toNat : Nat) : Int) := rfl
  rw [e, BitVec.toNat_or, BitVec.toNat_ofInt, BitVec.toNat_ofInt]
  have p : ((2 ^ 64 : Nat) : Int) = 18446744073709551616 := rfl
  rw [p]
  have hy : (y % 18446744073709551616).toNat < 2 ^ 8 := by show _ < 256; omega
  have hq : (x % 18446744073709551616).toNat = 2 ^ 8 * ((x % 18446744073709551616).toNat / 2 ^ 8) := by show _ = 256 * (_ / 256); omega
  rw [hq, ← Nat.two_pow_add_eq_or_of_lt hy, ← hq, IntKind.wrap_i64]
  omega
end Sl

set_option maxHeartbeats 1000000 in
theorem snumber_any (l : List UInt8) (b off cap : Nat) (w : World) (h : By w b off l) (hl : l.length ≤ 100) :
    Calls Tryd.prog 87 #[.slice (some ⟨b, off, none⟩) l.length cap] w fun e w' => e = .returned (.int .i64 (Sl.acc l)) ∧ w = w' := by
  have HB := Lib.hid h
  have HT := Lib.hid (Sl.acc_take l)
  have hlt := h.lt
  have h0 : Hid (Sl.acc (l.take 0) = 0) := Lib.hid rfl
  have hlI : (l.length : Int) ≤ 100 := by omega
  clear h
  go_enter Tryd.func87, Tryd.ntmps87
  go_wp2_with fail
  go_loopw [3, 8] (fun n i wr => ∃ k : Nat, k ≤ l.length ∧ i = .int .i64 k ∧ n = .int .i64 (Sl.acc (l.take k)) ∧ wr = w) (fun _ i _ => l.length - (intOf i).toNat)
  case atStart => exact ⟨0, Nat.zero_le _, rfl, by rw [h0.out], rfl⟩
  case round =>
    obtain ⟨k, hk, rfl, rfl, rfl⟩ := hrel
    by_cases hkl : k < l.length
    · have hcell := HB.out.at_ k hkl
      have hbl := Wh.by_lt l k
      obtain ⟨a1, a2, a3⟩ := Sl.wr_low (Sl.acc (l.take k))
      have hT := HT.out k hkl
      have hor := Sl.or_low (Sl.wr64 (Sl.acc (l.take k) * 256)) (Wh.byt l k) a1 a2 a3 (by omega) (by omega)
      rw [← hT] at hor
      have hw : IntKind.i64.wrap (Sl.acc (l.take k) * 256) = Sl.wr64 (Sl.acc (l.take k) * 256) := by rw [IntKind.wrap_i64]; rfl
      clear hT a1 a2 a3
      generalize hq : Sl.acc (l.take (k + 1)) = q at *
      have HQ := Lib.hid hq
      clear hq
      generalize Sl.wr64 (Sl.acc (l.take k) * 256) = s at *
      generalize Sl.acc (l.take k) = a at *
      generalize Wh.byt l k = c at *
      go_wp2_with fail
      go_roundw
      case rel => exact ⟨k + 1, by omega, by go_num, by rw [HQ.out], trivial⟩
      case measure => simp [intOf]; omega
    · obtain rfl : k = l.length := by omega
      rw [List.take_length]
      go_wp2_with fail
      go_ret
      exact ⟨rfl, rfl⟩

namespace Sl
theorem wr_small (z : Int) (h1 : 0 ≤ z) (h2 : z < 9223372036854775808) : wr64 z = z := by unfold wr64; omega
def dn (l : List UInt8) : Int := wr64 (Wh.nm l 4 * 4294967296 + Wh.nm l 8)
theorem twelve {l : List UInt8} (h : l.length = 12) : ∃ c0 c1 c2 c3 c4 c5 c6 c7 c8 c9 c10 c11, l = [c0, c1, c2, c3, c4, c5, c6, c7, c8, c9, c10, c11] := by
  match l, h with
  | [c0, c1, c2, c3, c4, c5, c6, c7, c8, c9, c10, c11], _ => exact ⟨c0, c1, c2, c3, c4, c5, c6, c7, c8, c9, c10, c11, rfl⟩
theorem four_step (x1 x2 x3 x4 c0 c1 c2 c3 : Int) (h0 : 0 ≤ c0 ∧ c0 < 256) (h1 : 0 ≤ c1 ∧ c1 < 256) (h2 : 0 ≤ c2 ∧ c2 < 256)
    (a1 : x1 = wr64 (0 * 256) + c0) (a2 : x2 = wr64 (x1 * 256) + c1) (a3 : x3 = wr64 (x2 * 256) + c2) (a4 : x4 = wr64 (x3 * 256) + c3) : x4 = ((c0 * 256 + c1) * 256 + c2) * 256 + c3 := by
  rw [wr_small (0 * 256) (by omega) (by omega)] at a1
  rw [wr_small (x1 * 256) (by omega) (by omega)] at a2
  rw [wr_small (x2 * 256) (by omega) (by omega)] at a3
  rw [wr_small (x3 * 256) (by omega) (by omega)] at a4
  omega
theorem eight_step (x4 x5 x6 x7 x8 c4 c5 c6 c7 : Int) (h : 0 ≤ x4 ∧ x4 < 4294967296) (h0 : 0 ≤ c4 ∧ c4 < 256) (h1 : 0 ≤ c5 ∧ c5 < 256) (h3 : 0 ≤ c7 ∧ c7 < 256)
    (a5 : x5 = wr64 (x4 * 256) + c4) (a6 : x6 = wr64 (x5 * 256) + c5) (a7 : x7 = wr64 (x6 * 256) + c6) (a8 : x8 = wr64 (x7 * 256) + c7) : x8 = wr64 (x4 * 4294967296 + (((c4 * 256 + c5) * 256 + c6) * 256 + c7)) := by
  rw [wr_small (x4 * 256) (by omega) (by omega)] at a5
  rw [wr_small (x5 * 256) (by omega) (by omega)] at a6
  rw [wr_small (x6 * 256) (by omega) (by omega)] at a7
  have hz : x4 * 4294967296 + (((c4 * 256 + c5) * 256 + c6) * 256 + c7) = x7 * 256 + c7 := by omega
  rw [hz, a8]
  clear hz a5 a6 a7 a8
  unfold wr64
  omega
theorem u8_bd (c : UInt8) : 0 ≤ (c.toNat : Int) ∧ (c.toNat : Int) < 256 := by have := c.toNat_lt; omega
theorem acc4 (c0 c1 c2 c3 : UInt8) : acc [c0, c1, c2, c3] = (((c0.toNat : Int) * 256 + c1.toNat) * 256 + c2.toNat) * 256 + c3.toNat :=
  four_step _ _ _ _ _ _ _ _ (u8_bd c0) (u8_bd c1) (u8_bd c2) (acc_snoc [] c0) (acc_snoc [c0] c1) (acc_snoc [c0, c1] c2) (acc_snoc [c0, c1, c2] c3)
theorem acc8 (c0 c1 c2 c3 c4 c5 c6 c7 : UInt8) : acc [c0, c1, c2, c3, c4, c5, c6, c7] = wr64 (((((c0.toNat : Int) * 256 + c1.toNat) * 256 + c2.toNat) * 256 + c3.toNat) * 4294967296 + ((((c4.toNat : Int) * 256 + c5.toNat) * 256 + c6.toNat) * 256 + c7.toNat)) := by
  rw [← acc4 c0 c1 c2 c3]
  refine eight_step _ _ _ _ _ _ _ _ _ ?_ (u8_bd c4) (u8_bd c5) (u8_bd c7) (acc_snoc [c0, c1, c2, c3] c4) (acc_snoc [c0, c1, c2, c3, c4] c5) (acc_snoc [c0, c1, c2, c3, c4, c5] c6) (acc_snoc [c0, c1, c2, c3, c4, c5, c6] c7)
  rw [acc4]
  have := u8_bd c0
  have := u8_bd c1
  have := u8_bd c2
  have := u8_bd c3
  omega
theorem acc_at {l : List UInt8} (h : l.length = 12) : acc (l.take 4) = Wh.nm l 0 := by
  obtain ⟨c0, c1, c2, c3, c4, c5, c6, c7, c8, c9, c10, c11, rfl⟩ := twelve h
  refine (acc4 c0 c1 c2 c3).trans ?_
  show _ = (c0.toNat : Int) * 16777216 + c1.toNat * 65536 + c2.toNat * 256 + c3.toNat
  omega
theorem acc_n {l : List UInt8} (h : l.length = 12) : acc (l.drop 4) = dn l := by
  obtain ⟨c0, c1, c2, c3, c4, c5, c6, c7, c8, c9, c10, c11, rfl⟩ := twelve h
  refine (acc8 c4 c5 c6 c7 c8 c9 c10 c11).trans ?_
  have n1 : Wh.nm [c0, c1, c2, c3, c4, c5, c6, c7, c8, c9, c10, c11] 4 = (c4.toNat : Int) * 16777216 + c5.toNat * 65536 + c6.toNat * 256 + c7.toNat := rfl
  have n2 : Wh.nm [c0, c1, c2, c3, c4, c5, c6, c7, c8, c9, c10, c11] 8 = (c8.toNat : Int) * 16777216 + c9.toNat * 65536 + c10.toNat * 256 + c11.toNat := rfl
  unfold dn
  rw [n1, n2]
  have e1 : (((c4.toNat : Int) * 256 + c5.toNat) * 256 + c6.toNat) * 256 + c7.toNat = (c4.toNat : Int) * 16777216 + c5.toNat * 65536 + c6.toNat * 256 + c7.toNat := by omega
  have e2 : (((c8.toNat : Int) * 256 + c9.toNat) * 256 + c10.toNat) * 256 + c11.toNat = (c8.toNat : Int) * 16777216 + c9.toNat * 65536 + c10.toNat * 256 + c11.toNat := by omega
  rw [e1, e2]
theorem dn_bd (l : List UInt8) : -9223372036854775808 ≤ dn l ∧ dn l ≤ 9223372036854775807 := by unfold dn wr64; omega
/-- There and back. -/
theorem bt_nat (n : Int) (k : Nat) : ((bt n k).toNat : Int) = n / (2 : Int) ^ (8 * k) % 256 := by unfold bt; exact Wh.u8of _
theorem back_at (a n : Int) : Wh.nm (enc a n) 0 = lim a := by
  have b := lim_bd a
  show (((bt (lim a) 3).toNat : Int)) * 16777216 + (bt (lim a) 2).toNat * 65536 + (bt (lim a) 1).toNat * 256 + (bt (lim a) 0).toNat = lim a
  obtain ⟨p7, p6, p5, p4, p3, p2, p1, p0⟩ := pw
  rw [bt_nat, bt_nat, bt_nat, bt_nat, p3, p2, p1, p0, Int.ediv_one]
  omega
theorem back_n (a n : Int) (h1 : -9223372036854775808 ≤ n) (h2 : n ≤ 9223372036854775807) : dn (enc a n) = n := by
  have e : dn (enc a n) = wr64 ((((bt n 7).toNat : Int) * 16777216 + (bt n 6).toNat * 65536 + (bt n 5).toNat * 256 + (bt n 4).toNat) * 4294967296 + (((bt n 3).toNat : Int) * 16777216 + (bt n 2).toNat * 65536 + (bt n 1).toNat * 256 + (bt n 0).toNat)) := rfl
  obtain ⟨p7, p6, p5, p4, p3, p2, p1, p0⟩ := pw
  rw [e, bt_nat, bt_nat, bt_nat, bt_nat, bt_nat, bt_nat, bt_nat, bt_nat, p7, p6, p5, p4, p3, p2, p1, p0, Int.ediv_one]
  have hz : (n / 72057594037927936 % 256 * 16777216 + n / 281474976710656 % 256 * 65536 + n / 1099511627776 % 256 * 256 + n / 4294967296 % 256) * 4294967296 + (n / 16777216 % 256 * 16777216 + n / 65536 % 256 * 65536 + n / 256 % 256 * 256 + n % 256) = n % 18446744073709551616 := by omega
  rw [hz]
  unfold wr64
  omega
end Sl
end Go.Proofs.YtbhfapbhlkgmfaaDoor

namespace Go.Proofs.YtbhfapbhlkgmfaaDoor
open Go.RowKit Go.Sort
open Me

namespace Sl
def okd (l : List UInt8) : Bool := decide (l.length = 12)
def dat (l : List UInt8) : Int := if l.length = 12 then Wh.nm l 0 else 0
def dnn (l : List UInt8) : Int := if l.length = 12 then dn l else 0
end Sl

set_option maxHeartbeats 1000000 in
theorem sdecode_12 (L : List UInt8) (hL : L.length = 12) (b off cap : Nat) (w : World) (h : By w b off L) (hc : 12 ≤ cap) :
    Calls Tryd.prog 72 #[.slice (some ⟨b, off, none⟩) 12 cap] w fun e w' => e = .returned (.tuple #[.agg #[.int .i64 (Wh.nm L 0), .int .i64 (Sl.dn L)], .bool true]) ∧ Below w.heap.size w w' := by
  have H4 : Hid (∀ W, Below w.heap.size w W → Calls Tryd.prog 87 #[.slice (some ⟨b, off, none⟩) 4 cap] W fun e w' => e = .returned (.int .i64 (Wh.nm L 0)) ∧ W = w') := Lib.hid fun W hb => by
    have := snumber_any (L.take 4) b off cap W ((h.below hb).take 4 (by omega)) (by rw [List.length_take]; omega)
    rw [Sl.acc_at hL, List.length_take, hL] at this
    exact this
  have H8 : Hid (∀ W, Below w.heap.size w W → Calls Tryd.prog 87 #[.slice (some ⟨b, off + 4, none⟩) 8 (cap - 4)] W fun e w' => e = .returned (.int .i64 (Sl.dn L)) ∧ W = w') := Lib.hid fun W hb => by
    have := snumber_any (L.drop 4) b (off + 4) (cap - 4) W ((h.below hb).drop 4) (by rw [List.length_drop]; omega)
    rw [Sl.acc_n hL, List.length_drop, hL] at this
    exact this
  generalize Wh.nm L 0 = p at *
  generalize Sl.dn L = q at *
  have hcI : (12 : Int) ≤ (cap : Int) := by omega
  have h4c : ¬ cap = 4 := by omega
  clear h hL
  go_enter Tryd.func72, Tryd.ntmps72
  go_wp2_with fail
  go_region_with (first
    | (go_at_call 87; (with_reducible refine (H4.out _ (by repeat (first | exact Below.refl _ _ | assumption | refine Below.setCell ?_ (by first | (simp; done) | omega | (simp; omega) | (simp at *; omega)) _ | refine Below.alloc ?_ (by first | (simp; done) | omega | (simp; omega) | (simp at *; omega)) _ | refine Below.drew ?_ | refine below_drewN ?_ _ | (refine Below.trans ?_ (Below.mono (by assumption) (by first | (simp; done) | omega | (simp; omega) | (simp at *; omega)))) | (refine Below.trans ?_ (Below.mono (below_regrown _ _ _) (by first | (simp; done) | omega | (simp; omega) | (simp at *; omega))))))).mono ?_); rintro e w1 ⟨rfl, rfl⟩)
    | (go_at_call 87; (with_reducible refine (H8.out _ (by repeat (first | exact Below.refl _ _ | assumption | refine Below.setCell ?_ (by first | (simp; done) | omega | (simp; omega) | (simp at *; omega)) _ | refine Below.alloc ?_ (by first | (simp; done) | omega | (simp; omega) | (simp at *; omega)) _ | refine Below.drew ?_ | refine below_drewN ?_ _ | (refine Below.trans ?_ (Below.mono (by assumption) (by first | (simp; done) | omega | (simp; omega) | (simp at *; omega)))) | (refine Below.trans ?_ (Below.mono (below_regrown _ _ _) (by first | (simp; done) | omega | (simp; omega) | (simp at *; omega))))))).mono ?_); rintro e w1 ⟨rfl, rfl⟩)
    | fail)
  all_goals
    go_wp2_with fail
    refine bodyPost_ret (v := .tuple #[.agg #[.int .i64 p, .int .i64 q], .bool true]) ?_ rfl ⟨rfl, (by repeat (first | exact Below.refl _ _ | assumption | refine Below.setCell ?_ (by first | (simp; done) | omega | (simp; omega) | (simp at *; omega)) _ | refine Below.alloc ?_ (by first | (simp; done) | omega | (simp; omega) | (simp at *; omega)) _ | refine Below.drew ?_ | refine below_drewN ?_ _ | (refine Below.trans ?_ (Below.mono (by assumption) (by first | (simp; done) | omega | (simp; omega) | (simp at *; omega)))) | (refine Below.trans ?_ (Below.mono (below_regrown _ _ _) (by first | (simp; done) | omega | (simp; omega) | (simp at *; omega))))))⟩
    simp [results, Tryd.results72, go_sem]

set_option maxHeartbeats 1000000 in
theorem sdecode_no (A : Option Addr) (n cap : Nat) (hn : n ≠ 12) (w : World) :
    Calls Tryd.prog 72 #[.slice A n cap] w fun e w' => e = .returned (.tuple #[.agg #[.int .i64 0, .int .i64 0], .bool false]) ∧ Below w.heap.size w w' := by
  have h1 : ((n : Int) == 12) = false := by simp; omega
  have h2 : ¬ (n : Int) = 12 := by omega
  go_enter Tryd.func72, Tryd.ntmps72
  go_wp2_with fail
  refine bodyPost_ret (v := .tuple #[.agg #[.int .i64 0, .int .i64 0], .bool false]) ?_ rfl ⟨rfl, (by repeat (first | exact Below.refl _ _ | assumption | refine Below.setCell ?_ (by first | (simp; done) | omega | (simp; omega) | (simp at *; omega)) _ | refine Below.alloc ?_ (by first | (simp; done) | omega | (simp; omega) | (simp at *; omega)) _ | refine Below.drew ?_ | refine below_drewN ?_ _ | (refine Below.trans ?_ (Below.mono (by assumption) (by first | (simp; done) | omega | (simp; omega) | (simp at *; omega)))) | (refine Below.trans ?_ (Below.mono (below_regrown _ _ _) (by first | (simp; done) | omega | (simp; omega) | (simp at *; omega))))))⟩
  simp [results, Tryd.results72, go_sem]

end Go.Proofs.YtbhfapbhlkgmfaaDoor

namespace Go.Proofs.YtbhfapbhlkgmfaaDoor
open Go.RowKit Go.Sort
open Me

/-- Bytes written over, from a place on. -/
def ovr (b : List UInt8) (off : Nat) (p : List UInt8) : List UInt8 := b.take off ++ p ++ b.drop (off + p.length)
theorem ovr_len {b : List UInt8} {off : Nat} {p : List UInt8} (h : off + p.length ≤ b.length) : (ovr b off p).length = b.length := by
  unfold ovr
  simp
  omega
theorem take_over {α : Type} (c d p : List α) (n off : Nat) (h : c.take n = d) (hf : off + p.length ≤ n) : (c.take off ++ p ++ c.drop (off + p.length)).take n = d.take off ++ p ++ d.drop (off + p.length) := by
  subst h
  have e : (c.take n).take off = c.take off := by rw [List.take_take, Nat.min_eq_left (by omega)]
  rw [e]
  by_cases hl : off ≤ c.length
  · have h1 : (c.take off ++ p).length = off + p.length := by rw [List.length_append, List.length_take, Nat.min_eq_left hl]
    rw [List.take_append, List.take_of_length_le (by omega), h1, List.drop_take]
  · have h1 : c.drop (off + p.length) = [] := List.drop_eq_nil_of_le (by omega)
    have h2 : (c.take n).drop (off + p.length) = [] := List.drop_eq_nil_of_le (by rw [List.length_take]; omega)
    rw [h1, h2, List.append_nil, List.take_of_length_le]
    rw [List.length_append, List.length_take]
    omega
theorem sizeU8 : (Tryd.prog.info? 5).map (·.size) = some 1 := by kernel_rfl

theorem copy_own {W : World} {base g n cap : Nat} {D p : List UInt8} (ho : OwnB base W (.slice (some ⟨g, 0, none⟩) n cap) D) (off : Nat) (hp : 0 < p.length) (hfit : off + p.length ≤ D.length) (ty : TypeId) (sp : Option Addr) (sCap : Nat) (G : Nat → Prop)
    (hr : Rd W G sp (by8 p)) (dLen dCap : Nat) (hd : p.length ≤ dLen) :
    ∃ W', (Builtin.copy_ #[65, 65] ty #[.slice (some ⟨g, off, none⟩) dLen dCap, .slice sp p.length sCap]).run Tryd.prog W = .ok (goInt p.length) W' ∧ OwnB base W' (.slice (some ⟨g, 0, none⟩) n cap) (ovr D off p) ∧ Kp (fun b => b = g) W W' := by
  obtain ⟨hlen, hn | ⟨g', cap', cur, hv, hb, hg, hle, hm, hs, hx⟩⟩ := ho
  · simp at hn
  · injection hv with e1 e2 e3
    injection e1 with e1
    injection e1 with e1
    subst e1 e2 e3
    obtain ⟨ad, rfl, _, _, hc⟩ := hr (by intro e; have := by8_len p; rw [e] at this; simp at this; omega)
    rw [Nat.mul_one] at hx hs
    have hrun := run_copy_row (P := Tryd.prog) W 65 65 ty 5 g off dLen dCap ad p.length sCap cur 5 (by8 p) Tryd.underlying65 sizeU8 hg (by rw [by8_len]; exact (Nat.min_eq_left hd).symm) hc (by rw [by8_len]; omega) (by8_one _)
    rw [by8_len] at hrun
    refine ⟨_, hrun, ⟨?_, .inr ⟨g, cap, _, ?_, hb, setRow_heap W g cur _ _ _ hg, ?_, hm, ?_, ?_⟩⟩, ?_⟩
    · rw [by8_len]; simp
    · rw [ovr_len hfit]
    · rw [ovr_len hfit]; exact hle
    · have e1 : cur.toList.length = cur.size := Array.length_toList
      simp [by8_len]
      omega
    · rw [ovr_len hfit, Nat.mul_one, List.toList_toArray, ← by8_len p, take_over cur.toList (by8 D) (by8 p) D.length off hx (by rw [by8_len]; exact hfit)]
      unfold ovr by8
      simp
    · refine ⟨rfl, rfl, rfl, by simp [World.setRow], fun k _ hk => setRow_other W g k _ (fun e => hk e)⟩

theorem app_empty {W : World} (b : Addr) (A : Option Addr) (c : Nat) (L : List UInt8) (t ty : TypeId) (ht : Tryd.prog.underlying t = some (.slice 5)) (G : Nat → Prop) (hr : Rd W G A (by8 L)) (h0 : 0 < L.length) (hL : L.length ≤ 1048576) (base : Nat) (hb : base ≤ W.heap.size) :
    ∃ cap W', (Builtin.append_ #[t, t] ty #[.slice (some b) 0 0, .slice A L.length c]).run Tryd.prog W = .ok (.slice (some ⟨W.heap.size, 0, none⟩) L.length cap) W' ∧ OwnB base W' (.slice (some ⟨W.heap.size, 0, none⟩) L.length cap) L ∧ Below W.heap.size W W' := by
  obtain ⟨i, hi, hz, hs, hby⟩ := info_parts u8info
  obtain ⟨ad, rfl, _, _, hc⟩ := hr (by intro e; have := by8_len L; rw [e] at this; simp at this; omega)
  have hrun := run_append_grow (P := Tryd.prog) W t ty 5 i (.int .u8 0) ht hi hz b 0 0 [] (by simp) (by simp) ad L.length c (by8 L) (by rw [by8_len, hs]; omega) hc (by omega) (by simp; omega) (growslice_fits (by omega) (by rw [hby]; omega))
  simp only [Nat.zero_add] at hrun
  refine ⟨_, _, hrun, ⟨by rw [by8_len]; simp, .inr ⟨W.heap.size, _, _, rfl, hb, heap_alloc_new W.drew _, grownCap_ge W L.length 0 _, grownCap_le_maxLen W L.length 0 _ (by unfold maxLen; omega), ?_, ?_⟩⟩, (by repeat (first | exact Below.refl _ _ | assumption | refine Below.setCell ?_ (by first | (simp; done) | omega | (simp; omega) | (simp at *; omega)) _ | refine Below.alloc ?_ (by first | (simp; done) | omega | (simp; omega) | (simp at *; omega)) _ | refine Below.drew ?_ | (refine Below.trans ?_ (Below.mono (by assumption) (by first | (simp; done) | omega | (simp; omega) | (simp at *; omega)))) | (refine Below.trans ?_ (Below.mono (below_regrown _ _ _) (by first | (simp; done) | omega | (simp; omega) | (simp at *; omega))))))⟩
  · have hge := grownCap_ge W L.length 0 5
    have e1 : (Value.int IntKind.u8 0).cells.size = 1 := rfl
    simp only [Array.size_append, List.size_toArray, size_zeroCells, e1, by8_len, List.length_nil]
    omega
  · rw [Nat.mul_one]
    simp only [Array.toList_append, List.nil_append]
    rw [← by8_len L]
    exact List.take_left
end Go.Proofs.YtbhfapbhlkgmfaaDoor

namespace Go.Proofs.YtbhfapbhlkgmfaaDoor
open Go
namespace Inv

def dep (o : Oper) (j : Nat) : Bool := o.after.toList.any fun e => Region.binds .any e && e.on == j
/-- The edges point backwards. -/
def ordB (ops : Array Oper) : Bool := ops.toList.zipIdx.all fun p => p.1.after.all fun e => decide (e.on < p.2)
/-- No two operations write one slot, and each slot is there. -/
def dstB (ops : Array Oper) (n : Nat) : Bool :=
  (ops.toList.zipIdx.all fun p => ops.toList.zipIdx.all fun q => p.2 == q.2 || p.1.dst.isNone || p.1.dst != q.1.dst) && ops.toList.all fun o => match o.dst with | some d => decide (d < n) | none => true
/-- Slot s still has what it had when operation i comes up. -/
def fresh (ops : Array Oper) (i s : Nat) : Bool := ops.toList.zipIdx.all fun p => p.1.dst != some s || p.2 == i || dep p.1 i
/-- Slot s is written by no operation. -/
def clean (ops : Array Oper) (s : Nat) : Bool := ops.toList.all fun o => o.dst != some s
def slot (o : Oper) (a : Act) : Value := match o.dst with | some d => a.tmps.getD d undef | none => undef

theorem zip_all {ops : Array Oper} {f : Oper × Nat → Bool} (h : ops.toList.zipIdx.all f = true) {i : Nat} {o : Oper} (ho : ops[i]? = some o) : f (o, i) = true := by
  refine List.all_eq_true.1 h (o, i) ?_
  rw [List.mem_zipIdx_iff_getElem?]
  simpa using ho
theorem ord_lt {ops : Array Oper} (h : ordB ops = true) {i : Nat} {o : Oper} (ho : ops[i]? = some o) {e : Edge} (he : e ∈ o.after) : e.on < i := by
  have := zip_all h ho
  simp only [Array.all_eq_true_iff_forall_mem] at this
  exact of_decide_eq_true (this e he)
theorem dst_ne {ops : Array Oper} {n : Nat} (h : dstB ops n = true) {i j : Nat} {o p : Oper} (ho : ops[i]? = some o) (hp : ops[j]? = some p) (hij : i ≠ j) {d : Tmp} (hd : o.dst = some d) : p.dst ≠ some d := by
  unfold dstB at h
  rw [Bool.and_eq_true] at h
  have := zip_all (zip_all h.1 ho) hp
  simp [hd, hij] at this
  exact fun e => this e.symm
theorem dst_lt {ops : Array Oper} {n : Nat} (h : dstB ops n = true) {i : Nat} {o : Oper} (ho : ops[i]? = some o) {d : Tmp} (hd : o.dst = some d) : d < n := by
  unfold dstB at h
  rw [Bool.and_eq_true] at h
  have := List.all_eq_true.1 h.2 o (Array.mem_toList_iff.2 (Array.mem_of_getElem? ho))
  simpa [hd] using this
theorem fresh_spec {ops : Array Oper} {i s : Nat} (h : fresh ops i s = true) {j : Nat} {p : Oper} (hp : ops[j]? = some p) (hd : p.dst = some s) : j = i ∨ dep p i = true := by
  have := zip_all h hp
  simp [hd] at this
  exact this
theorem clean_spec {ops : Array Oper} {s : Nat} (h : clean ops s = true) {j : Nat} {p : Oper} (hp : ops[j]? = some p) : p.dst ≠ some s := by
  have := List.all_eq_true.1 h p (Array.mem_toList_iff.2 (Array.mem_of_getElem? hp))
  simpa using this

section
variable {P : Program} {ops : Array Oper} {Q : Exit → Act → World → Prop}

theorem count_set (l : Array Bool) (i : Nat) (hf : l.getD i true = false) : (l.setIfInBounds i true).toList.count false + 1 = l.toList.count false := by
  have hi : i < l.size := by
    apply Decidable.byContradiction
    intro h
    simp [Array.getD, h] at hf
  have hl : l.toList[i]'(by simpa using hi) = false := by simpa [Array.getD, hi] using hf
  have h1 : 0 < l.toList.count false := List.count_pos_iff.2 (hl ▸ List.getElem_mem _)
  have h2 := List.count_set (a := true) (b := false) (l := l.toList) (i := i) (by simpa using hi)
  rw [hl] at h2
  have e1 : ((false == false) = true) = True := by simp
  have e2 : ((true == false) = true) = False := by simp
  simp only [e1, e2, if_true, if_false] at h2
  rw [Array.toList_setIfInBounds]
  omega
theorem count_zero {l : Array Bool} (h : l.toList.count false = 0) (i : Nat) : l.getD i true = true := by
  by_cases hi : i < l.size
  · have : l[i] ≠ false := fun e => List.count_eq_zero.1 h (by rw [← e]; simp)
    simpa [Array.getD, hi] using this
  · simp [Array.getD, hi]
/-- Where nothing may come up, all have come up. -/
theorem ready_nil (hord : ordB ops = true) {listed : Array Bool} (h : Region.ready .any ops listed = []) : ∀ i, i < ops.size → listed.getD i true = true := by
  intro i
  induction i using Nat.strongRecOn with
  | _ i ih =>
    intro hi
    apply Decidable.byContradiction
    intro hne
    have hmem : i ∈ Region.ready .any ops listed := by
      unfold Region.ready
      rw [List.mem_filter]
      refine ⟨List.mem_range.2 hi, ?_⟩
      rw [Bool.and_eq_true]
      refine ⟨by simpa using hne, ?_⟩
      have ho : ops[i]? = some ops[i] := Array.getElem?_eq_getElem hi
      rw [ho]
      simp only [Option.map_some, Option.getD_some]
      rw [Array.all_eq_true_iff_forall_mem]
      intro e he
      have hlt := ord_lt hord ho he
      have := ih e.on hlt (by omega)
      rw [Bool.or_eq_true]
      refine .inr ?_
      have hsz : e.on < listed.size ∨ ¬ e.on < listed.size := Nat.lt_or_ge _ _ |>.imp id Nat.not_lt.2
      rcases hsz with hs | hs
      · simpa [Array.getD, hs] using this
      · exfalso
        apply hne
        have : ¬ i < listed.size := by omega
        simp [Array.getD, this]
    rw [h] at hmem
    cases hmem

theorem wpAny_inv (I : Array Bool → Act → World → Prop)
    (step : ∀ listed a w, I listed a w → ∀ i ∈ Region.ready .any ops listed, wpOp P ops Q i (I (listed.setIfInBounds i true)) a w)
    (fin : ∀ listed a w, I listed a w → Region.ready .any ops listed = [] → Q .normal a w) :
    ∀ fuel listed a w, I listed a w → listed.toList.count false ≤ fuel → wpAny P .any ops Q fuel listed a w
  | 0, listed, a, w, h, hc => by
    have hr : Region.ready .any ops listed = [] := by
      refine List.filter_eq_nil_iff.2 fun i _ => ?_
      have := count_zero (Nat.le_zero.1 hc) i
      simp [this]
    exact ⟨hr, fin _ _ _ h hr⟩
  | fuel + 1, listed, a, w, h, hc => by
    refine ⟨fin _ _ _ h, fun i hi => ?_⟩
    have hf : listed.getD i true = false := by
      unfold Region.ready at hi
      rw [List.mem_filter, Bool.and_eq_true] at hi
      simpa using hi.2.1
    have := count_set listed i hf
    exact wpOp_mono (fun a' w' h' => wpAny_inv I step fin fuel _ a' w' h' (by omega)) (step _ _ _ h i hi)

/-- The law. R i: what operation i has left in its slot, in a world; Ext: how worlds may go on. -/
theorem wp_region_inv {id : Nat} {a0 : Act} {w0 : World} (Ext : World → World → Prop) (R : Nat → Value → World → Prop) (hm : P.follows .mixedOrders = true) (hord : ordB ops = true) (hdst : dstB ops a0.tmps.size = true)
    (hrefl : ∀ w, Ext w w) (htr : ∀ a b c, Ext a b → Ext b c → Ext a c) (hR : ∀ i v w w', R i v w → Ext w w' → R i v w')
    (step : ∀ i o, ops[i]? = some o → ∀ a w, Ext w0.drew w → (∀ s, fresh ops i s = true → a.tmps.getD s undef = a0.tmps.getD s undef) → (∀ j p, dep o j = true → ops[j]? = some p → R j (slot p a) w) →
      if Region.wanted o (yielded ops a.tmps) = true then o.wp P a w (fun a' w' => ∃ v, a' = a.put o.dst v ∧ (o.dst = none → v = undef) ∧ R i v w' ∧ Ext w w') Q else R i undef w)
    (fin : ∀ a w, Ext w0.drew w → a.defers = a0.defers → a.tmps.size = a0.tmps.size → (∀ s, clean ops s = true → a.tmps.getD s undef = a0.tmps.getD s undef) → (∀ j p, ops[j]? = some p → R j (slot p a) w) → Q .normal a w) :
    (Code.region id ops true).wp P Q a0 w0 := by
  refine wp_region_any hm ?_
  refine wpAny_inv (fun listed a w => (∀ j o, listed.getD j true = true → ops[j]? = some o → ∀ k, dep o k = true → listed.getD k true = true) ∧ a.defers = a0.defers ∧ a.tmps.size = a0.tmps.size ∧
    (∀ s, (∀ j o, listed.getD j true = true → ops[j]? = some o → o.dst ≠ some s) → a.tmps.getD s undef = a0.tmps.getD s undef) ∧ Ext w0.drew w ∧ (∀ j o, listed.getD j true = true → ops[j]? = some o → R j (slot o a) w)) ?_ ?_ ops.size _ a0 _ ?_ ?_
  · rintro listed a w ⟨h1, h2, h3, h4, h5, h6⟩ i hi
    unfold Region.ready at hi
    rw [List.mem_filter, Bool.and_eq_true] at hi
    obtain ⟨hlt, hnl, haf⟩ := hi
    rw [List.mem_range] at hlt
    have ho : ops[i]? = some ops[i] := Array.getElem?_eq_getElem hlt
    rw [ho] at haf
    simp only [Option.map_some, Option.getD_some, Array.all_eq_true_iff_forall_mem] at haf
    generalize ops[i] = o at *
    have hnl' : listed.getD i true = false := by simpa using hnl
    have hdep : ∀ k, dep o k = true → listed.getD k true = true := fun k hk => by
      unfold dep at hk
      obtain ⟨e, he, hb⟩ := List.any_eq_true.1 hk
      rw [Bool.and_eq_true] at hb
      have hon : e.on = k := by simpa using hb.2
      have := haf e (Array.mem_toList_iff.1 he)
      rw [hb.1] at this
      have hx : listed.getD e.on false = true := by simpa using this
      rw [← hon]
      by_cases hs : e.on < listed.size
      · simpa [Array.getD, hs] using hx
      · simp [Array.getD, hs]
    have hst := step i o ho a w h5 (fun s hs => h4 s fun j p hj hp hd => by
      rcases fresh_spec hs hp hd with rfl | hdj
      · rw [hj] at hnl'; cases hnl'
      · have := h1 j p hj hp i hdj
        rw [this] at hnl'; cases hnl') (fun j p hj hp => h6 j p (hdep j hj) hp)
    -- what stands behind the operation
    have key : ∀ v w', (o.dst = none → v = undef) → R i v w' → Ext w w' → (∀ j p, (listed.setIfInBounds i true).getD j true = true → ops[j]? = some p → ∀ k, dep p k = true → (listed.setIfInBounds i true).getD k true = true) ∧ (a.put o.dst v).defers = a0.defers ∧ (a.put o.dst v).tmps.size = a0.tmps.size ∧
        (∀ s, (∀ j p, (listed.setIfInBounds i true).getD j true = true → ops[j]? = some p → p.dst ≠ some s) → (a.put o.dst v).tmps.getD s undef = a0.tmps.getD s undef) ∧ Ext w0.drew w' ∧ (∀ j p, (listed.setIfInBounds i true).getD j true = true → ops[j]? = some p → R j (slot p (a.put o.dst v)) w') := by
      intro v w' hv hRi hE
      have hset : ∀ j, (listed.setIfInBounds i true).getD j true = true ↔ (j = i ∨ listed.getD j true = true) := fun j => by
        by_cases hji : j = i
        · subst hji
          simp only [true_or, iff_true]
          by_cases hs : j < listed.size <;> simp [Array.getD, hs]
        · have hij : i ≠ j := fun e => hji e.symm
          simp only [hji, false_or]
          by_cases hs : j < listed.size <;> simp [Array.getD, hs, hij]
      have hput : ∀ d, o.dst ≠ some d → (a.put o.dst v).tmps.getD d undef = a.tmps.getD d undef := fun d hd => by
        cases hod : o.dst with
        | none => rfl
        | some e =>
          have hed : e ≠ d := fun x => hd (by rw [hod, x])
          by_cases hs : d < a.tmps.size <;> simp [Act.put, Array.getD, hs, hed]
      refine ⟨fun j p hj hp k hk => ?_, ?_, ?_, fun s hs => ?_, htr _ _ _ h5 hE, fun j p hj hp => ?_⟩
      · rw [hset] at hj ⊢
        rcases hj with rfl | hj
        · rw [ho] at hp
          injection hp with hp
          subst hp
          exact .inr (hdep k hk)
        · exact .inr (h1 j p hj hp k hk)
      · rw [← h2]; cases o.dst <;> rfl
      · rw [← h3]; cases o.dst <;> simp [Act.put]
      · rw [hput s (hs i o ((hset i).2 (.inl rfl)) ho)]
        exact h4 s fun j p hj hp => hs j p ((hset j).2 (.inr hj)) hp
      · rw [hset] at hj
        by_cases hji : j = i
        · subst hji
          rw [ho] at hp
          injection hp with hp
          subst hp
          have : slot o (a.put o.dst v) = v := by
            cases hod : o.dst with
            | none => rw [hv hod]; unfold slot; rw [hod]
            | some d =>
              have hd := dst_lt hdst ho hod
              rw [← h3] at hd
              simp [slot, hod, Act.put, Array.getD, hd]
          rw [this]
          exact hRi
        · have hj' := hj.resolve_left hji
          have : slot p (a.put o.dst v) = slot p a := by
            unfold slot
            cases hpd : p.dst with
            | none => rfl
            | some d => exact hput d (dst_ne hdst hp ho hji hpd)
          rw [this]
          exact hR _ _ _ _ (h6 j p hj' hp) hE
    unfold wpOp
    rw [ho]
    simp only
    split
    · rename_i hw
      rw [if_pos hw] at hst
      refine .inl (Oper.wp_mono ?_ hst)
      rintro a' w' ⟨v, rfl, hv, hRi, hE⟩
      exact key v w' hv hRi hE
    · rename_i hw
      rw [if_neg hw] at hst
      exact key undef w (fun _ => rfl) hst (hrefl w)
  · rintro listed a w ⟨h1, h2, h3, h4, h5, h6⟩ hr
    have hall : ∀ j p, ops[j]? = some p → listed.getD j true = true := fun j p hp => ready_nil hord hr j (Array.getElem?_eq_some_iff.1 hp).1
    exact fin a w h5 h2 h3 (fun s hs => h4 s fun j p _ hp => clean_spec hs hp) (fun j p hp => h6 j p (hall j p hp) hp)
  · have hno : ∀ j o, (Array.replicate ops.size false).getD j true = true → ops[j]? = some o → False := fun j o hj ho => by
      have := (Array.getElem?_eq_some_iff.1 ho).1
      simp [Array.getD, this] at hj
    exact ⟨fun j o hj ho => (hno j o hj ho).elim, rfl, rfl, fun _ _ => rfl, hrefl _, fun j o hj ho => (hno j o hj ho).elim⟩
  · simp

/-! ## One operation -/
theorem want0 {o : Oper} (h : o.guard = none) (y : Nat → Option Bool) : Region.wanted o y = true := by simp [Region.wanted, h]
theorem want {o p : Oper} {j : Nat} {b : Bool} {d : Tmp} {a : Act} (h : o.guard = some (j, b)) (hp : ops[j]? = some p) (hd : p.dst = some d) (hv : a.eval (.tmp d) = .bool b) : Region.wanted o (yielded ops a.tmps) = true := by
  have hv' : a.tmps.getD d undef = .bool b := hv
  have : a.tmps[d]? = some (.bool b) := by
    by_cases hs : d < a.tmps.size
    · simpa [Array.getD, hs] using hv'
    · simp [Array.getD, hs, undef] at hv'
  simp [Region.wanted, h, yielded, hp, hd, this]
theorem unwant {o p : Oper} {j : Nat} {b c : Bool} {d : Tmp} {a : Act} (h : o.guard = some (j, b)) (hp : ops[j]? = some p) (hd : p.dst = some d) (hv : a.eval (.tmp d) = .bool c) (hbc : (c == b) = false) : ¬ Region.wanted o (yielded ops a.tmps) = true := by
  have hv' : a.tmps.getD d undef = .bool c := hv
  have : a.tmps[d]? = some (.bool c) := by
    by_cases hs : d < a.tmps.size
    · simpa [Array.getD, hs] using hv'
    · simp [Array.getD, hs, undef] at hv'
  simp [Region.wanted, h, yielded, hp, hd, this]
  simpa using hbc
theorem val {o : Oper} {a : Act} {w w' : World} {R : Value → World → Prop} {Ext : World → World → Prop} (v : Value) (hrun : (execOp a.eval o).run P w = .ok (.value v) w') (hd : o.dst.isSome = true) (hR : R v w') (hE : Ext w w') :
    o.wp P a w (fun a' w' => ∃ v, a' = a.put o.dst v ∧ (o.dst = none → v = undef) ∧ R v w' ∧ Ext w w') Q := by
  unfold Oper.wp
  rw [hrun]
  exact ⟨v, rfl, fun e => (by rw [e] at hd; cases hd), hR, hE⟩
/-- An operation without a slot: a store, a copy whose number is not asked for. -/
theorem act {o : Oper} {a : Act} {w w' : World} {R : Value → World → Prop} {Ext : World → World → Prop} (v : Value) (hrun : (execOp a.eval o).run P w = .ok (.value v) w') (hd : o.dst = none) (hR : R undef w') (hE : Ext w w') :
    o.wp P a w (fun a' w' => ∃ v, a' = a.put o.dst v ∧ (o.dst = none → v = undef) ∧ R v w' ∧ Ext w w') Q := by
  unfold Oper.wp
  rw [hrun]
  refine ⟨undef, ?_, fun _ => rfl, hR, hE⟩
  rw [hd]
  rfl
theorem go {o : Oper} {a : Act} {w : World} {R : Value → World → Prop} {Ext : World → World → Prop} {f : FuncId} {xs : Array Value} (hrun : (execOp a.eval o).run P w = .ok (.enter f xs) w) (hd : o.dst.isSome = true)
    (hc : Calls P f xs w fun e w' => ∃ v, e = .returned v ∧ R v w' ∧ Ext w w') : o.wp P a w (fun a' w' => ∃ v, a' = a.put o.dst v ∧ (o.dst = none → v = undef) ∧ R v w' ∧ Ext w w') Q := by
  unfold Oper.wp
  rw [hrun, Oper.upon_enter]
  refine hc.mono fun e w' h => ?_
  obtain ⟨v, rfl, hR, hE⟩ := h
  have h2 : ∃ v', a.put o.dst v = a.put o.dst v' ∧ (o.dst = none → v' = undef) ∧ R v' w' ∧ Ext w w' := ⟨v, rfl, fun e => (by rw [e] at hd; cases hd), hR, hE⟩
  exact h2

theorem run_append2 {o : Oper} {a : Act} {w w' : World} {x y : Operand} {t t' : TypeId} {u v r : Value} (ho : o.op = .call { callee := .builtin .append, args := #[x, y], argTypes := #[t, t'] }) (hx : a.eval x = u) (hy : a.eval y = v)
    (hrun : (Builtin.append_ #[t, t'] o.type #[u, v]).run P w = .ok r w') : (execOp a.eval o).run P w = .ok (.value r) w' := by
  unfold execOp
  simp only [ho, resolve, invoke, builtin, Sem.run_bind, Sem.run_pure, Result.andThen_ok, List.map_toArray, List.map_cons, List.map_nil, hx, hy, hrun]
theorem run_copy2 {o : Oper} {a : Act} {w w' : World} {x y : Operand} {t t' : TypeId} {u v r : Value} (ho : o.op = .call { callee := .builtin .copy, args := #[x, y], argTypes := #[t, t'] }) (hx : a.eval x = u) (hy : a.eval y = v)
    (hrun : (Builtin.copy_ #[t, t'] o.type #[u, v]).run P w = .ok r w') : (execOp a.eval o).run P w = .ok (.value r) w' := by
  unfold execOp
  simp only [ho, resolve, invoke, builtin, Sem.run_bind, Sem.run_pure, Result.andThen_ok, List.map_toArray, List.map_cons, List.map_nil, hx, hy, hrun]

/-! ## The slots behind the region -/
theorem fold_size (a : Act) : ∀ (l : List Oper) (b : Act), (l.foldl (fun b o => b.put o.dst (slot o a)) b).tmps.size = b.tmps.size ∧ (l.foldl (fun b o => b.put o.dst (slot o a)) b).defers = b.defers
  | [], _ => ⟨rfl, rfl⟩
  | o :: l, b => by
    rw [List.foldl_cons]
    have := fold_size a l (b.put o.dst (slot o a))
    refine ⟨this.1.trans ?_, this.2.trans ?_⟩
    · cases o.dst <;> simp [Act.put]
    · cases o.dst <;> rfl
theorem fold_get (a : Act) (s : Nat) : ∀ (l : List Oper) (b : Act), s < b.tmps.size → (l.foldl (fun b o => b.put o.dst (slot o a)) b).tmps.getD s undef = if (l.any fun o => o.dst == some s) = true then a.tmps.getD s undef else b.tmps.getD s undef
  | [], _, _ => rfl
  | o :: l, b, h => by
    have hsz : (b.put o.dst (slot o a)).tmps.size = b.tmps.size := by cases o.dst <;> simp [Act.put]
    rw [List.foldl_cons, fold_get a s l _ (by rw [hsz]; exact h), List.any_cons]
    by_cases hl : (l.any fun o => o.dst == some s) = true
    · rw [if_pos hl, if_pos (by rw [hl, Bool.or_true])]
    · rw [if_neg hl]
      cases hod : o.dst with
      | none => simp [Act.put, hl]
      | some d =>
        by_cases hds : d = s
        · subst hds
          simp [slot, hod, Act.put, Array.getD, h]
        · simp [Act.put, Array.getD, h, hds, hl]
theorem back {a0 a : Act} (hdf : a.defers = a0.defers) (hsz : a.tmps.size = a0.tmps.size) (hc : ∀ s, clean ops s = true → a.tmps.getD s undef = a0.tmps.getD s undef) : a = ops.toList.foldl (fun b o => b.put o.dst (slot o a)) a0 := by
  obtain ⟨h1, h2⟩ := fold_size a ops.toList a0
  have hg : ∀ s, s < a0.tmps.size → _ := fun s => fold_get a s ops.toList a0
  generalize ops.toList.foldl (fun b o => b.put o.dst (slot o a)) a0 = r at *
  have ht : a.tmps = r.tmps := by
    refine Array.ext (hsz.trans h1.symm) fun s hs1 hs2 => ?_
    have e := hg s (by omega)
    have e1 : a.tmps.getD s undef = a.tmps[s] := by simp [Array.getD, hs1]
    have e2 : r.tmps.getD s undef = r.tmps[s] := by simp [Array.getD, hs2]
    refine e1.symm.trans (Eq.trans ?_ e2)
    rw [e]
    by_cases hn : (ops.toList.any fun o => o.dst == some s) = true
    · rw [if_pos hn]
    · rw [if_neg hn]
      refine hc s ?_
      unfold clean
      rw [List.all_eq_true]
      intro o ho
      have : (o.dst == some s) = false := by
        cases hb : o.dst == some s
        · rfl
        · exact absurd (List.any_eq_true.2 ⟨o, ho, hb⟩) hn
      simp [bne, this]
  have hd : a.defers = r.defers := hdf.trans h2.symm
  cases a
  cases r
  simp only at ht hd
  rw [ht, hd]

/-! ## All operations, in a row -/
/-- What operation i owes. -/
def Obl (P : Program) (ops : Array Oper) (Q : Exit → Act → World → Prop) (Ext : World → World → Prop) (R : Nat → Value → World → Prop) (a0 : Act) (w0 : World) (i : Nat) (o : Oper) : Prop :=
  ∀ a w, Ext w0 w → (∀ s, fresh ops i s = true → a.eval (.tmp s) = a0.eval (.tmp s)) → (∀ j p, dep o j = true → ops[j]? = some p → R j (slot p a) w) →
      if Region.wanted o (yielded ops a.tmps) = true then o.wp P a w (fun a' w' => ∃ v, a' = a.put o.dst v ∧ (o.dst = none → v = undef) ∧ R i v w' ∧ Ext w w') Q else R i undef w
inductive Obls (P : Program) (ops : Array Oper) (Q : Exit → Act → World → Prop) (Ext : World → World → Prop) (R : Nat → Value → World → Prop) (a0 : Act) (w0 : World) : Nat → List Oper → Prop
  | nil {i : Nat} : Obls P ops Q Ext R a0 w0 i []
  | cons {i : Nat} {o : Oper} {l : List Oper} : Obl P ops Q Ext R a0 w0 i o → Obls P ops Q Ext R a0 w0 (i + 1) l → Obls P ops Q Ext R a0 w0 i (o :: l)
theorem Obls.get {Ext : World → World → Prop} {R : Nat → Value → World → Prop} {a0 : Act} {w0 : World} : ∀ {l : List Oper} {k : Nat}, Obls P ops Q Ext R a0 w0 k l → ∀ i o, l[i]? = some o → Obl P ops Q Ext R a0 w0 (k + i) o
  | _, _, .nil, i, o, h => by cases h
  | _, _, .cons h hs, 0, o, ho => by
    simp at ho
    subst ho
    exact h
  | _, _, .cons h hs, i + 1, o, ho => by
    have := hs.get i o (by simpa using ho)
    rwa [Nat.add_assoc, Nat.add_comm 1 i] at this
theorem region {id : Nat} {a0 : Act} {w0 : World} (Ext : World → World → Prop) (R : Nat → Value → World → Prop) (hm : P.follows .mixedOrders = true) (hord : ordB ops = true) (hdst : dstB ops a0.tmps.size = true)
    (hrefl : ∀ w, Ext w w) (htr : ∀ a b c, Ext a b → Ext b c → Ext a c) (hR : ∀ i v w w', R i v w → Ext w w' → R i v w') (step : Obls P ops Q Ext R a0 w0.drew 0 ops.toList)
    (fin : ∀ a w, Ext w0.drew w → a = ops.toList.foldl (fun b o => b.put o.dst (slot o a)) a0 → (∀ j p, ops[j]? = some p → R j (slot p a) w) → Q .normal a w) :
    (Code.region id ops true).wp P Q a0 w0 :=
  wp_region_inv Ext R hm hord hdst hrefl htr hR (fun i o ho a w hE hf hd => by
    have := step.get i o (by simpa using ho)
    rw [Nat.zero_add] at this
    exact this a w hE hf hd) (fun a w hE hdf hsz hc hall => fin a w hE (back hdf hsz hc) hall)
end
end Inv
end Go.Proofs.YtbhfapbhlkgmfaaDoor

namespace Go.Proofs.YtbhfapbhlkgmfaaDoor
open Go.RowKit Go.Sort
open Me

/-- A slice of bytes in a block behind base, as a list; no longer than memory may be. -/
def BsT (base : Nat) (w : World) (v : Value) (l : List UInt8) : Prop := Bs w (fun i => base ≤ i) v l
theorem BsT.below {base : Nat} {w w' : World} {v : Value} {l : List UInt8} (h : BsT base w v l) (b : Below w.heap.size w w') : BsT base w' v l := by
  obtain ⟨A, c, e, h1, h2, hr⟩ := h
  exact ⟨A, c, e, h1, h2, hr.below b⟩
theorem BsT.own {w0 : Nat} {w : World} {base : Nat} {v : Value} {l : List UInt8} (h : OwnB base w v l) (hb : w0 ≤ base) : BsT w0 w v l := by
  obtain ⟨A, c, e, h1, h2, hr⟩ := Bs.own h
  exact ⟨A, c, e, h1, h2, hr.mono fun _ _ hi => Nat.le_trans hb hi⟩
theorem BsT.reads {base : Nat} {w : World} {v : Value} {l : List UInt8} (h : BsT base w v l) : Reads w v l := by
  obtain ⟨A, c, e, h1, _, hr⟩ := h
  exact ⟨A, c, e, h1, hr.mono fun _ _ _ => trivial⟩
/-- Three rows of bytes, four noughts the first. -/
def Wr3 (w : World) (v : Value) (L2 L3 : List UInt8) : Prop := ∃ (g : Nat) (v1 v2 v3 : Value), v = .slice (some ⟨g, 0, none⟩) 3 3 ∧ RowAt w g 65 #[v1, v2, v3] ∧ Reads w v1 [0, 0, 0, 0] ∧ Reads w v2 L2 ∧ Reads w v3 L3
theorem Wr3.below {w w' : World} {v : Value} {L2 L3 : List UInt8} (h : Wr3 w v L2 L3) (b : Below w.heap.size w w') : Wr3 w' v L2 L3 := by
  obtain ⟨g, v1, v2, v3, e, hr, h1, h2, h3⟩ := h
  exact ⟨g, v1, v2, v3, e, hr.below b hr.lt, h1.below b, h2.below b, h3.below b⟩

def Wr3M (base : Nat) (w : World) (v : Value) (L2 L3 : List UInt8) : Prop := ∃ (g : Nat) (v1 v2 v3 : Value), v = .slice (some ⟨g, 0, none⟩) 3 3 ∧ base ≤ g ∧ RowAt w g 65 #[v1, v2, v3] ∧ BsT base w v1 [0, 0, 0, 0] ∧ BsT base w v2 L2 ∧ BsT base w v3 L3
theorem Wr3M.below {base : Nat} {w w' : World} {v : Value} {L2 L3 : List UInt8} (h : Wr3M base w v L2 L3) (b : Below w.heap.size w w') : Wr3M base w' v L2 L3 := by
  obtain ⟨g, v1, v2, v3, e, hg, hr, h1, h2, h3⟩ := h
  exact ⟨g, v1, v2, v3, e, hg, hr.below b hr.lt, h1.below b, h2.below b, h3.below b⟩
theorem Wr3M.weak {base : Nat} {w : World} {v : Value} {L2 L3 : List UInt8} (h : Wr3M base w v L2 L3) : Wr3 w v L2 L3 := by
  obtain ⟨g, v1, v2, v3, e, _, hr, h1, h2, h3⟩ := h
  exact ⟨g, v1, v2, v3, e, hr, h1.reads, h2.reads, h3.reads⟩

section
variable {w0 w : World} {g : Nat} {lr : Option Nat} {a n : Int} {L : List UInt8}
theorem put0_P (h : Sl.Pst w0 g lr a n L w) (hL : L.length ≤ 100) :
    Calls Tryd.prog 78 #[.pointer (some ⟨g, 0, none⟩), .int .i64 0, .int .i64 4] w fun e w' => e = .returned (.tuple #[]) ∧ Sl.Pst w0 g lr a n (L ++ [0, 0, 0, 0]) w' := by
  have e : Sl.beb 0 4 = [0, 0, 0, 0] := by decide
  have := sput_P h hL 0 4 (by omega)
  rw [e] at this
  exact this
end

set_option maxRecDepth 100000 in
set_option maxHeartbeats 2000000 in
theorem swrites_anyM (a n : Int) (w : World) :
    Calls Tryd.prog 68 #[.agg #[.int .i64 a, .int .i64 n]] w fun e w' => ∃ v, e = .returned v ∧ Wr3M w.heap.size w' v (Sl.beb n 8) (Sl.beb (Sl.lim a) 4) ∧ Below w.heap.size w w' := by
  go_enter Tryd.func68, Tryd.ntmps68
  go_wp2_with first
    | (go_at_call 77; (with_reducible refine (pointOf_P a n _).mono ?_); rintro e w1 ⟨g, rfl, hg, hp1, hb1⟩; have HP1 := Lib.hid hp1; have HB1 : Hid (Below w.heap.size w w1) := Lib.hid (lowBox' (hb1.mono (by simp))); have hg1 : w.heap.size ≤ g := Nat.le_trans (by simp) hg; have hz1 : w.heap.size ≤ w1.heap.size := Nat.le_trans (by simp) hb1.size; clear hp1 hb1 hg)
    | (go_at_call 78; (with_reducible refine (put0_P HP1.out (by simp)).mono ?_); rintro e w2 ⟨rfl, hp2⟩; have HP2 := Lib.hid hp2; clear hp2 HP1)
    | (go_at_call 79; (with_reducible refine (stake_P HP2.out).mono ?_); rintro e w3 ⟨v1, rfl, ho3, hk3, hp3, hne1⟩; have HO3 := Lib.hid ho3; have HK3 := Lib.hid hk3; have HP3 := Lib.hid hp3; have HNE1 := Lib.hid hne1; obtain ⟨A1, n1, c1, rfl⟩ := own_slice ho3; clear ho3 hk3 hp3 hne1 HP2)
    | (go_at_call 80; (with_reducible refine (putN_P HP3.out (by simp)).mono ?_); rintro e w4 ⟨rfl, hp4⟩; have HP4 := Lib.hid hp4; clear hp4 HP3)
    | (go_at_call 79; (with_reducible refine (stake_P HP4.out).mono ?_); rintro e w5 ⟨v2, rfl, ho5, hk5, hp5, hne2⟩; have HO5 := Lib.hid ho5; have HK5 := Lib.hid hk5; have HP5 := Lib.hid hp5; have HNE2 := Lib.hid hne2; obtain ⟨A2, n2, c2, rfl⟩ := own_slice ho5; clear ho5 hk5 hp5 hne2 HP4)
    | (go_at_call 81; (with_reducible refine (putAt_P HP5.out (by simp)).mono ?_); rintro e w6 ⟨rfl, hp6⟩; have HP6 := Lib.hid hp6; clear hp6 HP5)
    | (go_at_call 79; (with_reducible refine (stake_P HP6.out).mono ?_); rintro e w7 ⟨v3, rfl, ho7, hk7, hp7, hne3⟩; have HO7 := Lib.hid ho7; have HK7 := Lib.hid hk7; obtain ⟨A3, n3, c3, rfl⟩ := own_slice ho7; clear ho7 hk7 hp7 hne3 HP6)
  go_ret
  have r1 := (HO3.out.kp HK5.out (fun b hb e => HNE1.out (e ▸ hb))).kp HK7.out (fun b hb e => HNE1.out (e ▸ hb))
  have r2 := HO5.out.kp HK7.out (fun b hb e => HNE2.out (e ▸ hb))
  have bel : Below w.heap.size w w7 := HB1.out.trans (((HK3.out.trans HK5.out (fun i _ h => h)).trans HK7.out (fun i _ h => h)).below hz1 (fun i hi e => by omega))
  have ab : ∀ o, Below w7.heap.size w7 (w7.alloc o) := fun o => (Below.refl _ _).alloc (Nat.le_refl _) o
  exact ⟨_, rfl, ⟨_, _, _, _, rfl, bel.size, RowAt.new w7 _ _, (BsT.own r1 hz1).below (ab _), (BsT.own r2 (Nat.le_trans hz1 HK3.out.size)).below (ab _), (BsT.own HO7.out (Nat.le_trans hz1 (Nat.le_trans HK3.out.size HK5.out.size))).below (ab _)⟩, bel.alloc bel.size _⟩

theorem Sl.enc_drop (a n : Int) : (Sl.enc a n).drop 4 = Sl.beb n 8 := rfl
theorem Sl.enc_take (a n : Int) : (Sl.enc a n).take 4 = Sl.beb (Sl.lim a) 4 := rfl

theorem swrites_any (a n : Int) (w : World) :
    Calls Tryd.prog 68 #[.agg #[.int .i64 a, .int .i64 n]] w fun e w' => ∃ v, e = .returned v ∧ Wr3 w' v (Sl.beb n 8) (Sl.beb (Sl.lim a) 4) ∧ Below w.heap.size w w' :=
  (swrites_anyM a n w).mono fun _ _ ⟨v, h1, h2, h3⟩ => ⟨v, h1, h2.weak, h3⟩

end Go.Proofs.YtbhfapbhlkgmfaaDoor

namespace Go.Proofs.YtbhfapbhlkgmfaaDoor
open Go.RowKit
open Fx (Vl)

set_option maxHeartbeats 400000 in
theorem plus_any (a : Bool) (m : Int) (b : Bool) (n : Int) (w : World) :
    Calls Tryd.prog 99 #[.agg #[.bool a, .int .i64 m], .agg #[.bool b, .int .i64 n]] w fun e w' => e = .returned (.agg #[.bool (Fx.plus ⟨a, m⟩ ⟨b, n⟩).ok, .int .i64 (Fx.plus ⟨a, m⟩ ⟨b, n⟩).n]) ∧ Below w.heap.size w w' := by
  cases h : Fx.num ⟨a, m⟩
  · rw [Fx.plus_no1 h]
    go_enter Tryd.func99, Tryd.ntmps99
    go_wp2_with (go_at_call 96; go_must (refine (isNumber_any _ _ _).mono ?_; rintro e w' ⟨rfl, hb⟩; obtain ⟨hc, hf⟩ := bcell hb; (try have hz0 : w.heap.size < w'.heap.size := Nat.lt_of_lt_of_le (by first | assumption | (simp; done) | (simp; omega)) hb.size); (try have hz1 : w.heap.size + 1 < w'.heap.size := Nat.lt_of_lt_of_le (by first | assumption | (simp; done) | (simp; omega)) hb.size); (try have hz2 : w.heap.size + 1 + 1 < w'.heap.size := Nat.lt_of_lt_of_le (by first | assumption | (simp; done) | (simp; omega)) hb.size); have hz := hb.size; (try simp at hz)))
    exact bodyPost_ret (v := .agg #[.bool false, .int .i64 0]) (by simp [results, Tryd.results99, go_sem, *]) rfl ⟨rfl, (by repeat (first | exact Below.refl _ _ | assumption | refine Below.setCell ?_ (by first | (simp; done) | omega | (simp; omega) | (simp at *; omega)) _ | refine Below.alloc ?_ (by first | (simp; done) | omega | (simp; omega) | (simp at *; omega)) _ | refine Below.drew ?_ | (refine Below.trans ?_ (Below.mono (by assumption) (by first | (simp; done) | omega | (simp; omega) | (simp at *; omega)))) | (refine Below.trans ?_ (Below.mono (below_regrown _ _ _) (by first | (simp; done) | omega | (simp; omega) | (simp at *; omega))))))⟩
  · cases h2 : Fx.num ⟨b, n⟩
    · rw [Fx.plus_no2 h2]
      go_enter Tryd.func99, Tryd.ntmps99
      go_wp2_with (go_at_call 96; go_must (refine (isNumber_any _ _ _).mono ?_; rintro e w' ⟨rfl, hb⟩; obtain ⟨hc, hf⟩ := bcell hb; (try have hz0 : w.heap.size < w'.heap.size := Nat.lt_of_lt_of_le (by first | assumption | (simp; done) | (simp; omega)) hb.size); (try have hz1 : w.heap.size + 1 < w'.heap.size := Nat.lt_of_lt_of_le (by first | assumption | (simp; done) | (simp; omega)) hb.size); (try have hz2 : w.heap.size + 1 + 1 < w'.heap.size := Nat.lt_of_lt_of_le (by first | assumption | (simp; done) | (simp; omega)) hb.size); have hz := hb.size; (try simp at hz)))
      exact bodyPost_ret (v := .agg #[.bool false, .int .i64 0]) (by simp [results, Tryd.results99, go_sem, *]) rfl ⟨rfl, (by repeat (first | exact Below.refl _ _ | assumption | refine Below.setCell ?_ (by first | (simp; done) | omega | (simp; omega) | (simp at *; omega)) _ | refine Below.alloc ?_ (by first | (simp; done) | omega | (simp; omega) | (simp at *; omega)) _ | refine Below.drew ?_ | (refine Below.trans ?_ (Below.mono (by assumption) (by first | (simp; done) | omega | (simp; omega) | (simp at *; omega)))) | (refine Below.trans ?_ (Below.mono (below_regrown _ _ _) (by first | (simp; done) | omega | (simp; omega) | (simp at *; omega))))))⟩
    · rw [Fx.plus_yes h h2]
      obtain ⟨rfl, m1, m2⟩ := Fx.num_iff.1 h
      obtain ⟨rfl, n1, n2⟩ := Fx.num_iff.1 h2
      have HW := Lib.hid (Fx.of_wrap (n := m + n) (by omega) (by omega))
      go_enter Tryd.func99, Tryd.ntmps99
      go_wp2_with first | (go_at_call 96; go_must (refine (isNumber_any _ _ _).mono ?_; rintro e w' ⟨rfl, hb⟩; obtain ⟨hc, hf⟩ := bcell hb; (try have hz0 : w.heap.size < w'.heap.size := Nat.lt_of_lt_of_le (by first | assumption | (simp; done) | (simp; omega)) hb.size); (try have hz1 : w.heap.size + 1 < w'.heap.size := Nat.lt_of_lt_of_le (by first | assumption | (simp; done) | (simp; omega)) hb.size); (try have hz2 : w.heap.size + 1 + 1 < w'.heap.size := Nat.lt_of_lt_of_le (by first | assumption | (simp; done) | (simp; omega)) hb.size); have hz := hb.size; (try simp at hz))) | (go_at_call 49; go_must (refine (of_any _ _).mono ?_; rintro e w' ⟨rfl, hb⟩; obtain ⟨hc, hf⟩ := bcell hb; (try have hz0 : w.heap.size < w'.heap.size := Nat.lt_of_lt_of_le (by first | assumption | (simp; done) | (simp; omega)) hb.size); (try have hz1 : w.heap.size + 1 < w'.heap.size := Nat.lt_of_lt_of_le (by first | assumption | (simp; done) | (simp; omega)) hb.size); (try have hz2 : w.heap.size + 1 + 1 < w'.heap.size := Nat.lt_of_lt_of_le (by first | assumption | (simp; done) | (simp; omega)) hb.size); have hz := hb.size; (try simp at hz)))
      exact bodyPost_ret (v := (.agg #[.bool (Fx.of (wrap64 (m + n))).ok, .int .i64 (Fx.of (wrap64 (m + n))).n])) (by simp [results, Tryd.results99, go_sem, *]) rfl ⟨by rw [HW.out], (by repeat (first | exact Below.refl _ _ | assumption | refine Below.setCell ?_ (by first | (simp; done) | omega | (simp; omega) | (simp at *; omega)) _ | refine Below.alloc ?_ (by first | (simp; done) | omega | (simp; omega) | (simp at *; omega)) _ | refine Below.drew ?_ | (refine Below.trans ?_ (Below.mono (by assumption) (by first | (simp; done) | omega | (simp; omega) | (simp at *; omega)))) | (refine Below.trans ?_ (Below.mono (below_regrown _ _ _) (by first | (simp; done) | omega | (simp; omega) | (simp at *; omega))))))⟩

set_option maxHeartbeats 400000 in
theorem ofQuotient_yes (n : Int) (w : World) :
    Calls Tryd.prog 97 #[.int .i64 n, .bool true] w fun e w' => e = .returned (.agg #[.bool (Fx.of n).ok, .int .i64 (Fx.of n).n]) ∧ Below w.heap.size w w' := by
  go_enter Tryd.func97, Tryd.ntmps97
  go_wp2_with (go_at_call 49; go_must (refine (of_any _ _).mono ?_; rintro e w' ⟨rfl, hb⟩; obtain ⟨hc, hf⟩ := bcell hb; (try have hz0 : w.heap.size < w'.heap.size := Nat.lt_of_lt_of_le (by first | assumption | (simp; done) | (simp; omega)) hb.size); (try have hz1 : w.heap.size + 1 < w'.heap.size := Nat.lt_of_lt_of_le (by first | assumption | (simp; done) | (simp; omega)) hb.size); (try have hz2 : w.heap.size + 1 + 1 < w'.heap.size := Nat.lt_of_lt_of_le (by first | assumption | (simp; done) | (simp; omega)) hb.size); have hz := hb.size; (try simp at hz)))
  exact bodyPost_ret (v := (.agg #[.bool (Fx.of n).ok, .int .i64 (Fx.of n).n])) (by simp [results, Tryd.results97, go_sem, *]) rfl ⟨rfl, (by repeat (first | exact Below.refl _ _ | assumption | refine Below.setCell ?_ (by first | (simp; done) | omega | (simp; omega) | (simp at *; omega)) _ | refine Below.alloc ?_ (by first | (simp; done) | omega | (simp; omega) | (simp at *; omega)) _ | refine Below.drew ?_ | (refine Below.trans ?_ (Below.mono (by assumption) (by first | (simp; done) | omega | (simp; omega) | (simp at *; omega)))) | (refine Below.trans ?_ (Below.mono (below_regrown _ _ _) (by first | (simp; done) | omega | (simp; omega) | (simp at *; omega))))))⟩

set_option maxHeartbeats 400000 in
theorem ofQuotient_no (n : Int) (w : World) :
    Calls Tryd.prog 97 #[.int .i64 n, .bool false] w fun e w' => e = .returned (.agg #[.bool false, .int .i64 0]) ∧ Below w.heap.size w w' := by
  go_enter Tryd.func97, Tryd.ntmps97
  go_wp2
  exact bodyPost_ret (v := .agg #[.bool false, .int .i64 0]) (by simp [results, Tryd.results97, go_sem, *]) rfl ⟨rfl, (by repeat (first | exact Below.refl _ _ | assumption | refine Below.setCell ?_ (by first | (simp; done) | omega | (simp; omega) | (simp at *; omega)) _ | refine Below.alloc ?_ (by first | (simp; done) | omega | (simp; omega) | (simp at *; omega)) _ | refine Below.drew ?_ | (refine Below.trans ?_ (Below.mono (by assumption) (by first | (simp; done) | omega | (simp; omega) | (simp at *; omega)))) | (refine Below.trans ?_ (Below.mono (below_regrown _ _ _) (by first | (simp; done) | omega | (simp; omega) | (simp at *; omega))))))⟩
end Go.Proofs.YtbhfapbhlkgmfaaDoor

namespace Go.Proofs.YtbhfapbhlkgmfaaDoor
open Go Go.Sort
namespace Qt

section
variable {P : Program} {md : Region.Mode} {C : World → Prop} {A : Array Oper} {o : Oper} {Q : Exit → Act → World → Prop}

/-- What is asked of the operations: edges lead back; guards too; the last one waits for each other one. -/
structure Fits (md : Region.Mode) (A : Array Oper) (o : Oper) : Prop where
  back : ∀ (j : Nat) (oj : Oper), A[j]? = some oj → ∀ e ∈ oj.after, Region.binds md e = true → e.on < j
  guarded : ∀ (j : Nat) (oj : Oper), A[j]? = some oj → ∀ (g : Nat) (b : Bool), oj.guard = some (g, b) → g < A.size
  waits : ∀ i, i < A.size → ∃ e ∈ o.after, Region.binds md e = true ∧ e.on = i
  last : ∀ e ∈ o.after, Region.binds md e = true → e.on < A.size

def fitsB (md : Region.Mode) (A : Array Oper) (o : Oper) : Bool :=
  ((List.range A.size).all fun j => match A[j]? with
    | some oj => (oj.after.all fun e => !Region.binds md e || decide (e.on < j)) && (match oj.guard with | some (g, _) => decide (g < A.size) | none => true)
    | none => true) &&
  ((List.range A.size).all fun i => o.after.any fun e => Region.binds md e && e.on == i) &&
  (o.after.all fun e => !Region.binds md e || decide (e.on < A.size))

theorem fits_of (h : fitsB md A o = true) : Fits md A o := by
  simp only [fitsB, Bool.and_eq_true, List.all_eq_true, List.mem_range] at h
  obtain ⟨⟨h1, h2⟩, h3⟩ := h
  refine ⟨fun j oj hj e he hb => ?_, fun j oj hj g b hg => ?_, fun i hi => ?_, fun e he hb => ?_⟩
  · have hlt : j < A.size := (Array.getElem?_eq_some_iff.1 hj).1
    have := h1 j hlt
    simp only [hj, Bool.and_eq_true] at this
    have h4 := Array.all_eq_true_iff_forall_mem.1 this.1 e he
    simpa [hb] using h4
  · have hlt : j < A.size := (Array.getElem?_eq_some_iff.1 hj).1
    have := h1 j hlt
    simp only [hj, Bool.and_eq_true, hg, decide_eq_true_eq] at this
    exact this.2
  · obtain ⟨e, he, hb⟩ := Array.any_eq_true'.1 (h2 i hi)
    simp only [Bool.and_eq_true, beq_iff_eq] at hb
    exact ⟨e, he, hb.1, hb.2⟩
  · have h4 := Array.all_eq_true_iff_forall_mem.1 h3 e he
    simpa [hb] using h4

theorem get_push_lt {j : Nat} (h : j < A.size) : (A.push o)[j]? = A[j]? := by
  rw [Array.getElem?_push, if_neg (by omega)]
theorem getD_push_false (L : Array Bool) (j : Nat) : (L.push false).getD j false = L.getD j false := by
  simp only [Array.getD_eq_getD_getElem?, Array.getElem?_push]
  split
  · rename_i h; subst h; simp
  · rfl
theorem getD_push_true {L : Array Bool} {j : Nat} (h : j ≠ L.size) : (L.push false).getD j true = L.getD j true := by
  simp only [Array.getD_eq_getD_getElem?, Array.getElem?_push]
  rw [if_neg h]
theorem getD_two {L : Array Bool} {j : Nat} (h : j < L.size) : L.getD j true = L.getD j false := by
  simp [Array.getD_eq_getD_getElem?, h]

/-- While something has not come up, something may come up. -/
theorem some_ready (F : Fits md A o) {L : Array Bool} (hL : L.size = A.size) : ∀ (m j : Nat), j < m → j < A.size → L.getD j true = false → ∃ i, i ∈ Region.ready md A L := by
  intro m
  induction m with
  | zero => intro j h; omega
  | succ m ih =>
    intro j hjm hj hu
    by_cases hall : ∀ e ∈ (A[j]).after, Region.binds md e = true → L.getD e.on false = true
    · exact ⟨j, mem_ready.2 ⟨hu, A[j], by simp [hj], hall⟩⟩
    · simp only [Classical.not_forall] at hall
      obtain ⟨e, he, hb, hne⟩ := hall
      have hlt := F.back j A[j] (by simp [hj]) e he hb
      have hlt2 : e.on < A.size := Nat.lt_trans hlt hj
      exact ih e.on (by omega) hlt2 (by rw [getD_two (by omega)]; simpa using hne)

/-- Which may come up: the same as without the last one, till all have come up. -/
theorem ready_push {L : Array Bool} (hL : L.size = A.size) {j : Nat} (hj : j < A.size) : j ∈ Region.ready md (A.push o) (L.push false) ↔ j ∈ Region.ready md A L := by
  rw [mem_ready, mem_ready, get_push_lt hj, getD_push_true (by omega)]
  simp only [getD_push_false]

theorem wanted_push (F : Fits md A o) {j : Nat} {oj : Oper} (hj : A[j]? = some oj) (tmps : Array Value) : Region.wanted oj (yielded (A.push o) tmps) = Region.wanted oj (yielded A tmps) := by
  unfold Region.wanted
  cases hg : oj.guard with
  | none => rfl
  | some gb =>
    obtain ⟨g, b⟩ := gb
    have hlt := F.guarded j oj hj g b hg
    have e : yielded (A.push o) tmps g = yielded A tmps g := by unfold yielded; rw [get_push_lt hlt]
    simp only [e]

theorem qOp_push (F : Fits md A o) {j : Nat} (hj : j < A.size) {K : Act → Prop} {a : Act} (h : qOp P A C j K a) : qOp P (A.push o) C j K a := by
  unfold qOp at *
  rw [get_push_lt hj]
  have hs : A[j]? = some A[j] := by simp [hj]
  rw [hs] at h ⊢
  simp only at h ⊢
  rw [wanted_push F hs]
  exact h

theorem set_push {L : Array Bool} {j : Nat} (hj : j < L.size) : (L.push false).setIfInBounds j true = (L.setIfInBounds j true).push false := by
  apply Array.ext_getElem?
  intro i
  simp only [Array.getElem?_setIfInBounds, Array.getElem?_push, Array.size_push, Array.size_setIfInBounds]
  by_cases h1 : i = L.size
  · subst h1; rw [if_neg (by omega), if_pos rfl, if_pos rfl]
  · by_cases h2 : j = i
    · subst h2; rw [if_pos rfl, if_pos (by omega), if_neg h1, if_pos rfl, if_pos hj]
    · rw [if_neg h2, if_neg h1, if_neg h1, if_neg h2]

/-- All have come up but the last one: it comes up, and then the region is done. -/
theorem last_up (F : Fits md A o) {L : Array Bool} (hL : L.size = A.size) (hall : ∀ j, j < A.size → L.getD j true = true) {a : Act} {w : World}
    (h : wpList P (A.push o) Q [o] a w) (k : Nat) : wpAny P md (A.push o) Q (k + 1) (L.push false) a w := by
  have hn : A.size ∈ Region.ready md (A.push o) (L.push false) := by
    rw [mem_ready]
    refine ⟨by rw [← hL]; simp [Array.getD_eq_getD_getElem?], o, by simp, fun e he hb => ?_⟩
    rw [getD_push_false, ← getD_two (by rw [hL]; exact F.last e he hb)]
    exact hall _ (F.last e he hb)
  have hdone : Region.ready md (A.push o) ((L.push false).setIfInBounds A.size true) = [] := by
    apply List.eq_nil_iff_forall_not_mem.2
    intro j hj
    rw [mem_ready] at hj
    obtain ⟨h1, oj, h2, _⟩ := hj
    have hlt : j < A.size + 1 := by have := (Array.getElem?_eq_some_iff.1 h2).1; simpa using this
    simp only [Array.getD_eq_getD_getElem?, Array.getElem?_setIfInBounds, Array.size_push, hL] at h1
    by_cases hj : A.size = j
    · subst hj; simp at h1
    · rw [if_neg hj] at h1
      have h3 := hall j (by omega)
      rw [← getD_push_true (by omega)] at h3
      rw [Array.getD_eq_getD_getElem?] at h3
      rw [h3] at h1
      cases h1
  refine ⟨fun h0 => (by rw [h0] at hn; cases hn), fun i hi => ?_⟩
  have hin : i = A.size := by
    rw [mem_ready] at hi
    obtain ⟨h1, oj, h2, _⟩ := hi
    have hlt : i < A.size + 1 := by have := (Array.getElem?_eq_some_iff.1 h2).1; simpa using this
    by_cases hj : i = A.size
    · exact hj
    · rw [getD_push_true (by omega), hall i (by omega)] at h1
      cases h1
  subst hin
  have hK : ∀ a' w', Q .normal a' w' → wpAny P md (A.push o) Q k ((L.push false).setIfInBounds A.size true) a' w' := fun a' w' q => by
    cases k with
    | zero => exact ⟨hdone, q⟩
    | succ k => exact ⟨fun _ => q, fun i hi => (by rw [hdone] at hi; cases hi)⟩
  unfold wpOp
  rw [show (A.push o)[A.size]? = some o by simp]
  unfold wpList at h
  simp only
  split
  · rename_i hw
    rw [if_pos hw] at h
    exact h.imp (Oper.wp_mono hK) id
  · rename_i hw
    rw [if_neg hw] at h
    exact hK _ _ h

theorem any_tail (F : Fits md A o) {QQ : Act → Prop} (hQ : ∀ a w, C w → QQ a → wpList P (A.push o) Q [o] a w) :
    ∀ (fuel : Nat) (L : Array Bool) (a : Act) (w : World), L.size = A.size → C w → wpAnyQ P md A C QQ fuel L a → wpAny P md (A.push o) Q (fuel + 1) (L.push false) a w := by
  have all_of : ∀ {L : Array Bool}, L.size = A.size → Region.ready md A L = [] → ∀ j, j < A.size → L.getD j true = true := fun {L} hL h0 j hj => by
    cases hu : L.getD j true with
    | true => rfl
    | false =>
      obtain ⟨i, hi⟩ := some_ready F hL (j + 1) j (by omega) hj hu
      rw [h0] at hi
      cases hi
  intro fuel
  induction fuel with
  | zero => intro L a w hL hC h; exact last_up F hL (all_of hL h.1) (hQ a w hC h.2) 0
  | succ fuel ih =>
    intro L a w hL hC h
    by_cases h0 : Region.ready md A L = []
    · exact last_up F hL (all_of hL h0) (hQ a w hC (h.1 h0)) (fuel + 1)
    · obtain ⟨i0, hi0⟩ := List.exists_mem_of_ne_nil _ h0
      have hi0' := hi0
      have notlast : A.size ∉ Region.ready md (A.push o) (L.push false) := fun hn => by
        rw [mem_ready] at hn hi0'
        obtain ⟨hu, oj, hoj, _⟩ := hi0'
        have hlt := (Array.getElem?_eq_some_iff.1 hoj).1
        obtain ⟨_, o', ho', hw⟩ := hn
        rw [show (A.push o)[A.size]? = some o by simp] at ho'
        cases ho'
        obtain ⟨e, he, hb, hon⟩ := F.waits i0 hlt
        have h2 := hw e he hb
        rw [getD_push_false, hon, ← getD_two (by omega), hu] at h2
        cases h2
      have up : ∀ i, i ∈ Region.ready md (A.push o) (L.push false) → i < A.size ∧ i ∈ Region.ready md A L := fun i hi => by
        have hlt : i < A.size := by
          have h2 := (mem_ready.1 hi).2
          obtain ⟨oj, h2, _⟩ := h2
          have h3 : i < A.size + 1 := by have := (Array.getElem?_eq_some_iff.1 h2).1; simpa using this
          by_cases hj : i = A.size
          · subst hj; exact absurd hi notlast
          · omega
        exact ⟨hlt, (ready_push hL hlt).1 hi⟩
      refine ⟨fun he => ?_, fun i hi => ?_⟩
      · have hlt : i0 < A.size := by
          obtain ⟨oj, h2, _⟩ := (mem_ready.1 hi0).2
          exact (Array.getElem?_eq_some_iff.1 h2).1
        have := (ready_push (o := o) hL hlt).2 hi0
        rw [he] at this
        cases this
      · obtain ⟨hlt, hi2⟩ := up i hi
        rw [set_push (by omega)]
        exact wpOp_of_qOp (K := wpAnyQ P md A C QQ fuel (L.setIfInBounds i true)) hC (fun a' w' hC' hK => ih _ a' w' (by simpa using hL) hC' hK) (qOp_push F hlt (h.2 i hi2))

/-- **THE REGION**, its operations written out. -/
theorem wp_region_quiet_tail {id : Nat} {a : Act} {w : World} (l : List Oper) (o : Oper) (hm : P.follows .mixedOrders = true) (hB : Region.lexB .any l.toArray = true) (hF : fitsB .any l.toArray o = true) (hC : C { w with drawn := w.drawn + 1 })
    (h : wpQuiet P l.toArray C (fun a' => ∀ w', C w' → wpList P (l.toArray.push o) Q [o] a' w') l a) : (Code.region id (l.toArray.push o) true).wp P Q a w := by
  simp only [Region.lexB, Bool.and_eq_true] at hB
  refine wp_region_any hm ?_
  have hq := wpAnyQ_lex (C := C) (md := .any) hB.1 l 0 (Array.replicate l.toArray.size false) a (by simp) (by simpa using hB.2) h
  have hs : Array.replicate (l.toArray.push o).size false = (Array.replicate l.toArray.size false).push false := by
    rw [Array.size_push, Array.replicate_succ]
  rw [hs]
  have := any_tail (fits_of hF) (QQ := fun a' => ∀ w', C w' → wpList P (l.toArray.push o) Q [o] a' w') (fun a w hw hq => hq w hw) l.length (Array.replicate l.toArray.size false) a _ (by simp) hC hq
  simpa using this

/-- At the class 'some blocks laid, whatever count of draws'. -/
theorem wp_region_below_tail {id : Nat} {a : Act} {w : World} (l : List Oper) (o : Oper) (hm : P.follows .mixedOrders = true) (hB : Region.lexB .any l.toArray = true) (hF : fitsB .any l.toArray o = true)
    (h : wpQuiet P l.toArray (fun w' => ∃ p : Regrown, w' = grow (redrawn w p.d) p.os) (fun a' => ∀ w', (∃ p : Regrown, w' = grow (redrawn w p.d) p.os) → wpList P (l.toArray.push o) Q [o] a' w') l a) : (Code.region id (l.toArray.push o) true).wp P Q a w :=
  wp_region_quiet_tail (C := fun w' => ∃ p : Regrown, w' = grow (redrawn w p.d) p.os) l o hm hB hF ⟨⟨w.drawn + 1, #[]⟩, by rw [grow_empty]; rfl⟩ h

/-- The same over a list written out: its first n operations, and the last. -/
theorem wp_region_below_tail_at {id : Nat} {a : Act} {w : World} {l : List Oper} {o : Oper} (n : Nat) (hl : l.drop n = [o]) (hm : P.follows .mixedOrders = true) (hB : Region.lexB .any (l.take n).toArray = true) (hF : fitsB .any (l.take n).toArray o = true)
    (h : wpQuiet P (l.take n).toArray (fun w' => ∃ p : Regrown, w' = grow (redrawn w p.d) p.os) (fun a' => ∀ w', (∃ p : Regrown, w' = grow (redrawn w p.d) p.os) → wpList P l.toArray Q [o] a' w') (l.take n) a) : (Code.region id l.toArray true).wp P Q a w := by
  have e : l = l.take n ++ [o] := by rw [← hl, List.take_append_drop]
  have e2 : l.toArray = (l.take n).toArray.push o := by rw [List.push_toArray, ← e]
  rw [e2] at h ⊢
  exact wp_region_below_tail (l.take n) o hm hB hF h
end
end Qt
end Go.Proofs.YtbhfapbhlkgmfaaDoor

namespace Go.Proofs.YtbhfapbhlkgmfaaDoor
open Go.RowKit Go.Sort
open Fx (Vl)

def sum (l : List Vl) : Vl := l.foldl Fx.plus ⟨true, 0⟩
theorem sum_take (l : List Vl) (k : Nat) (h : k < l.length) : sum (l.take (k + 1)) = Fx.plus (sum (l.take k)) l[k] := by
  unfold sum
  rw [List.take_succ_eq_append_getElem h, List.foldl_append]
  rfl

/-- The cells of a row of Vals. -/
structure Vals (w : World) (b off : Nat) (l : List Vl) : Prop where
  lt : b < w.heap.size
  ok : ∀ i (h : i < l.length), w.cell? ⟨b, off + i * 2, none⟩ = some (.bool l[i].ok)
  n : ∀ i (h : i < l.length), w.cell? ⟨b, off + i * 2 + 1, none⟩ = some (.int .i64 l[i].n)

theorem Vals.below {w w' : World} {b off : Nat} {l : List Vl} (h : Vals w b off l) (hb : Below w.heap.size w w') : Vals w' b off l :=
  ⟨Nat.lt_of_lt_of_le h.lt hb.size, fun i hi => (hb.cell (p := ⟨b, off + i * 2, none⟩) h.lt).trans (h.ok i hi), fun i hi => (hb.cell (p := ⟨b, off + i * 2 + 1, none⟩) h.lt).trans (h.n i hi)⟩

/-- What holds at every turn of a sum: of the world; of the result's block r, of the sum's block s. -/
structure AddRel (w wr : World) (r s : Nat) (v : Vl) : Prop where
  below : Below w.heap.size w wr
  r0 : w.heap.size ≤ r
  rs : r < s
  sz : s < wr.heap.size
  rc0 : wr.cell? ⟨r, 0, none⟩ = some (.bool false)
  rc1 : wr.cell? ⟨r, 1, none⟩ = some (.int .i64 0)
  rf0 : wr.frozen? ⟨r, 0, none⟩ = false
  rf1 : wr.frozen? ⟨r, 1, none⟩ = false
  sc0 : wr.cell? ⟨s, 0, none⟩ = some (.bool v.ok)
  sc1 : wr.cell? ⟨s, 1, none⟩ = some (.int .i64 v.n)
  sf0 : wr.frozen? ⟨s, 0, none⟩ = false
  sf1 : wr.frozen? ⟨s, 1, none⟩ = false

theorem AddRel.step {w wr wp : World} {r s : Nat} {v : Vl} (h : AddRel w wr r s v) (hb : Below wr.heap.size wr wp) (ok : Bool) (n : Int) :
    AddRel w ((wp.setCell ⟨s, 0, none⟩ (.bool ok)).setCell ⟨s, 1, none⟩ (.int .i64 n)) r s ⟨ok, n⟩ := by
  have hs1 := h.sz
  have hrs := h.rs
  have hr0 := h.r0
  have hbz := hb.size
  have hc : ∀ b f, b < wr.heap.size → wp.cell? ⟨b, f, none⟩ = wr.cell? ⟨b, f, none⟩ := fun b f hlt => hb.cell (p := ⟨b, f, none⟩) hlt
  have hf : ∀ b f, b < wr.heap.size → wp.frozen? ⟨b, f, none⟩ = wr.frozen? ⟨b, f, none⟩ := fun b f hlt => hb.frozen (p := ⟨b, f, none⟩) hlt
  have hne : r ≠ s := by omega
  have c0 := (hc s 0 hs1).trans h.sc0
  have c1 := (hc s 1 hs1).trans h.sc1
  have d0 := (hc r 0 (by omega)).trans h.rc0
  have d1 := (hc r 1 (by omega)).trans h.rc1
  have f0 := (hf s 0 hs1).trans h.sf0
  have f1 := (hf s 1 hs1).trans h.sf1
  have g0 := (hf r 0 (by omega)).trans h.rf0
  have g1 := (hf r 1 (by omega)).trans h.rf1
  clear hc hf
  refine ⟨?_, hr0, hrs, by simp; omega, ?_, ?_, ?_, ?_, ?_, ?_, ?_, ?_⟩
  · exact Below.setCell (Below.setCell (h.below.trans (hb.mono (by omega))) (by show _ ≤ s; omega) _) (by show _ ≤ s; omega) _
  all_goals simp [go_sem, *]

theorem AddRel.start {w w' : World} {T : TypeId} (hb : Below (w.alloc (.cells #[.bool false, .int .i64 0] T)).heap.size (w.alloc (.cells #[.bool false, .int .i64 0] T)) w') :
    AddRel w (w'.alloc (.cells #[.bool true, .int .i64 0] T)) w.heap.size w'.heap.size ⟨true, 0⟩ := by
  have hz := hb.size
  have hsz : (w.alloc (.cells #[.bool false, .int .i64 0] T)).heap.size = w.heap.size + 1 := by simp
  rw [hsz] at hz
  have hc : ∀ f, w'.cell? ⟨w.heap.size, f, none⟩ = (w.alloc (.cells #[.bool false, .int .i64 0] T)).cell? ⟨w.heap.size, f, none⟩ := fun f => hb.cell (p := ⟨w.heap.size, f, none⟩) (by rw [hsz]; show w.heap.size < _; omega)
  have hf : ∀ f, w'.frozen? ⟨w.heap.size, f, none⟩ = (w.alloc (.cells #[.bool false, .int .i64 0] T)).frozen? ⟨w.heap.size, f, none⟩ := fun f => hb.frozen (p := ⟨w.heap.size, f, none⟩) (by rw [hsz]; show w.heap.size < _; omega)
  have hlt : w.heap.size < w'.heap.size := by omega
  refine ⟨?_, Nat.le_refl _, by omega, by simp, ?_, ?_, ?_, ?_, ?_, ?_, ?_, ?_⟩
  · exact (((Below.refl w.heap.size w).alloc (Nat.le_refl _) _).trans (hb.mono (by omega))).alloc (by omega) _
  all_goals simp [go_sem, *]

set_option maxHeartbeats 1000000 in
theorem add_some (l : List Vl) (hl : l.length ≤ 4611686018427387904) (b off cap : Nat) (w : World) (hv : Vals w b off l) :
    Calls Tryd.prog 91 #[.slice (some ⟨b, off, none⟩) l.length cap] w fun e w' => e = .returned (.agg #[.bool (sum l).ok, .int .i64 (sum l).n]) ∧ Below w.heap.size w w' := by
  have O0 : Hid (∀ W, Calls Tryd.prog 49 #[.int .i64 0] W fun e w' => e = .returned (.agg #[.bool true, .int .i64 0]) ∧ Below W.heap.size W w') := Lib.hid fun W => of_any 0 W
  go_enter Tryd.func91, Tryd.ntmps91
  go_wp2_with (go_at_call 49; go_must (refine (O0.out _).mono ?_; rintro e w' ⟨rfl, hb⟩; obtain ⟨hc, hf⟩ := bcell hb; (try have hz0 : w.heap.size < w'.heap.size := Nat.lt_of_lt_of_le (by first | assumption | (simp; done) | (simp; omega)) hb.size); (try have hz1 : w.heap.size + 1 < w'.heap.size := Nat.lt_of_lt_of_le (by first | assumption | (simp; done) | (simp; omega)) hb.size); (try have hz2 : w.heap.size + 1 + 1 < w'.heap.size := Nat.lt_of_lt_of_le (by first | assumption | (simp; done) | (simp; omega)) hb.size); have hz := hb.size; (try simp at hz)))
  go_loopw [9] (fun i wr => ∃ k : Nat, k ≤ l.length ∧ i = .int .i64 k ∧ AddRel w wr w.heap.size w'.heap.size (sum (l.take k))) (fun i _ => l.length - (intOf i).toNat)
  case atStart => exact ⟨0, Nat.zero_le _, rfl, AddRel.start hb⟩
  case round =>
    obtain ⟨k, hk, rfl, hR⟩ := hrel
    have hsz := hR.sz
    have rc0 := hR.rc0
    have rc1 := hR.rc1
    have rf0 := hR.rf0
    have rf1 := hR.rf1
    have sc0 := hR.sc0
    have sc1 := hR.sc1
    have sf0 := hR.sf0
    have sf1 := hR.sf1
    by_cases hlt : k < l.length
    · have hvr := hv.below hR.below
      have ec0 := hvr.ok k hlt
      have ec1 := hvr.n k hlt
      have hst := Lib.hid (sum_take l k hlt)
      have HR := Lib.hid hR
      clear hR hvr
      generalize l[k] = ek at *
      generalize sum (l.take k) = sk at *
      obtain ⟨eo, en⟩ := ek
      obtain ⟨so, sn⟩ := sk
      go_wp2_with (go_at_call 99; go_must (refine (plus_any _ _ _ _ _).mono ?_; rintro e w' ⟨rfl, hb⟩; obtain ⟨hc, hf⟩ := bcell hb; (try have hz0 : w.heap.size < w'.heap.size := Nat.lt_of_lt_of_le (by first | assumption | (simp; done) | (simp; omega)) hb.size); (try have hz1 : w.heap.size + 1 < w'.heap.size := Nat.lt_of_lt_of_le (by first | assumption | (simp; done) | (simp; omega)) hb.size); (try have hz2 : w.heap.size + 1 + 1 < w'.heap.size := Nat.lt_of_lt_of_le (by first | assumption | (simp; done) | (simp; omega)) hb.size); have hz := hb.size; (try simp at hz)))
      go_roundw
      case rel =>
        refine ⟨k + 1, by omega, by go_num, ?_⟩
        rw [hst.out]
        exact AddRel.step HR.out (((Below.refl _ _).alloc (Nat.le_refl _) _).trans (hb.mono (by simp))) _ _
      case measure => simp [intOf]; omega
    · obtain rfl : k = l.length := by omega
      have hbb := hR.below
      have hr0 := hR.r0
      rw [List.take_length] at *
      clear hR
      go_wp2
      exact bodyPost_ret (v := (.agg #[.bool (sum l).ok, .int .i64 (sum l).n])) (by simp [results, Tryd.results91, go_sem, *]) rfl ⟨rfl, (by repeat (first | exact Below.refl _ _ | assumption | refine Below.setCell ?_ (by first | (simp; done) | omega | (simp; omega) | (simp at *; omega)) _ | refine Below.alloc ?_ (by first | (simp; done) | omega | (simp; omega) | (simp at *; omega)) _ | refine Below.drew ?_ | (refine Below.trans ?_ (Below.mono (by assumption) (by first | (simp; done) | omega | (simp; omega) | (simp at *; omega)))) | (refine Below.trans ?_ (Below.mono (below_regrown _ _ _) (by first | (simp; done) | omega | (simp; omega) | (simp at *; omega))))))⟩

set_option maxHeartbeats 1000000 in
theorem add_nil (w : World) :
    Calls Tryd.prog 91 #[.slice none 0 0] w fun e w' => e = .returned (.agg #[.bool (sum []).ok, .int .i64 (sum []).n]) ∧ Below w.heap.size w w' := by
  have O0 : Hid (∀ W, Calls Tryd.prog 49 #[.int .i64 0] W fun e w' => e = .returned (.agg #[.bool true, .int .i64 0]) ∧ Below W.heap.size W w') := Lib.hid fun W => of_any 0 W
  go_enter Tryd.func91, Tryd.ntmps91
  go_wp2_with (go_at_call 49; go_must (refine (O0.out _).mono ?_; rintro e w' ⟨rfl, hb⟩; obtain ⟨hc, hf⟩ := bcell hb; (try have hz0 : w.heap.size < w'.heap.size := Nat.lt_of_lt_of_le (by first | assumption | (simp; done) | (simp; omega)) hb.size); (try have hz1 : w.heap.size + 1 < w'.heap.size := Nat.lt_of_lt_of_le (by first | assumption | (simp; done) | (simp; omega)) hb.size); (try have hz2 : w.heap.size + 1 + 1 < w'.heap.size := Nat.lt_of_lt_of_le (by first | assumption | (simp; done) | (simp; omega)) hb.size); have hz := hb.size; (try simp at hz)))
  go_loopw [9] (fun i wr => i = .int .i64 0 ∧ AddRel w wr w.heap.size w'.heap.size ⟨true, 0⟩) (fun i _ => 0)
  case atStart => exact ⟨rfl, AddRel.start hb⟩
  case round =>
    obtain ⟨rfl, hR⟩ := hrel
    have hsz := hR.sz
    have rc0 := hR.rc0
    have rc1 := hR.rc1
    have rf0 := hR.rf0
    have rf1 := hR.rf1
    have sc0 := hR.sc0
    have sc1 := hR.sc1
    have hbb := hR.below
    clear hR
    go_wp2
    exact bodyPost_ret (v := .agg #[.bool true, .int .i64 0]) (by simp [results, Tryd.results91, go_sem, *]) rfl ⟨rfl, (by repeat (first | exact Below.refl _ _ | assumption | refine Below.setCell ?_ (by first | (simp; done) | omega | (simp; omega) | (simp at *; omega)) _ | refine Below.alloc ?_ (by first | (simp; done) | omega | (simp; omega) | (simp at *; omega)) _ | refine Below.drew ?_ | (refine Below.trans ?_ (Below.mono (by assumption) (by first | (simp; done) | omega | (simp; omega) | (simp at *; omega)))) | (refine Below.trans ?_ (Below.mono (below_regrown _ _ _) (by first | (simp; done) | omega | (simp; omega) | (simp at *; omega))))))⟩

end Go.Proofs.YtbhfapbhlkgmfaaDoor

namespace Go.Proofs.YtbhfapbhlkgmfaaDoor
namespace Fx

/-- To the nearest, halves up. -/
def rnd (p d : Nat) : Nat := if d ≤ 2 * (p % d) then p / d + 1 else p / d
def mdq (a b c : Int) : Nat := rnd (mag a * mag b) (mag c)
def mdok (a b c : Int) : Bool := decide (c ≠ 0 ∧ mdq a b c ≤ 4611686018427387904)
def neg3 (a b c : Int) : Bool := ((decide (a < 0) != decide (b < 0)) != decide (c < 0))
def mdn (a b c : Int) : Int := if mdok a b c then (if neg3 a b c then -(mdq a b c : Int) else (mdq a b c : Int)) else 0

theorem rnd_up {p d : Nat} (h : d ≤ 2 * (p % d)) : rnd p d = p / d + 1 := by unfold rnd; rw [if_pos h]
theorem rnd_down {p d : Nat} (h : 2 * (p % d) < d) : rnd p d = p / d := by unfold rnd; rw [if_neg (by omega)]
theorem rnd_ge (p d : Nat) : p / d ≤ rnd p d := by unfold rnd; split <;> omega

theorem mdok_zero {a b c : Int} (h : c = 0) : mdok a b c = false := by unfold mdok; simp [h]
theorem mdok_yes {a b c : Int} (h : c ≠ 0) (hq : mdq a b c ≤ 4611686018427387904) : mdok a b c = true := by unfold mdok; simp [h, hq]
theorem mdok_no {a b c : Int} (hq : 4611686018427387904 < mdq a b c) : mdok a b c = false := by
  unfold mdok; simp only [decide_eq_false_iff_not]; omega
theorem mdn_no {a b c : Int} (h : mdok a b c = false) : mdn a b c = 0 := by unfold mdn; rw [h]; rfl
theorem mdn_neg {a b c : Int} (h : mdok a b c = true) (hn : neg3 a b c = true) : mdn a b c = -(mdq a b c : Int) := by unfold mdn; rw [h, hn]; rfl
theorem mdn_pos {a b c : Int} (h : mdok a b c = true) (hn : neg3 a b c = false) : mdn a b c = (mdq a b c : Int) := by unfold mdn; rw [h, hn]; rfl

theorem mag_le {n : Int} (h1 : -9223372036854775808 ≤ n) (h2 : n ≤ 9223372036854775807) : mag n ≤ 9223372036854775808 := by unfold mag; omega
theorem mag_pos {n : Int} (h : n ≠ 0) : 0 < mag n := by unfold mag; omega

/-- MulDiv's value: the number, and whether there is one. -/
structure Md (a b c : Int) (n : Int) (ok : Bool) : Prop where
  num : n = mdn a b c
  ok : ok = mdok a b c

theorem md_zero {a b c : Int} (h : c = 0) : Md a b c 0 false := ⟨(mdn_no (mdok_zero h)).symm, (mdok_zero h).symm⟩
theorem md_big {a b c : Int} (hq : 4611686018427387904 < mdq a b c) : Md a b c 0 false := ⟨(mdn_no (mdok_no hq)).symm, (mdok_no hq).symm⟩
theorem md_neg {a b c : Int} {q : Int} (h : c ≠ 0) (he : q = (mdq a b c : Int)) (hq : q ≤ 4611686018427387904) (hn : neg3 a b c = true) : Md a b c (-q) true := by
  have h2 := mdok_yes (a := a) (b := b) h (by omega)
  exact ⟨by rw [mdn_neg h2 hn, he], h2.symm⟩
theorem md_pos {a b c : Int} {q : Int} (h : c ≠ 0) (he : q = (mdq a b c : Int)) (hq : q ≤ 4611686018427387904) (hn : neg3 a b c = false) : Md a b c q true := by
  have h2 := mdok_yes (a := a) (b := b) h (by omega)
  exact ⟨by rw [mdn_pos h2 hn, he], h2.symm⟩

/-- The value of MulDiv's answer. -/
def mdv (a b c : Int) : Vl := if mdok a b c then of (mdn a b c) else none
def mul (a b : Vl) : Vl := if num a && num b then mdv a.n b.n 1000000 else none
def div (a b : Vl) : Vl := if num a && num b then mdv a.n 1000000 b.n else none
theorem mdv_yes {a b c : Int} (h : mdok a b c = true) : mdv a b c = of (mdn a b c) := by unfold mdv; rw [if_pos h]
theorem mdv_no {a b c : Int} (h : mdok a b c = false) : mdv a b c = none := by unfold mdv; rw [if_neg (by simp [h])]
theorem mul_yes {a b : Vl} (h1 : num a = true) (h2 : num b = true) : mul a b = mdv a.n b.n 1000000 := by unfold mul; simp [h1, h2]
theorem mul_no1 {a b : Vl} (h1 : num a = false) : mul a b = none := by unfold mul; simp [h1]
theorem mul_no2 {a b : Vl} (h2 : num b = false) : mul a b = none := by unfold mul; simp [h2]
theorem div_yes {a b : Vl} (h1 : num a = true) (h2 : num b = true) : div a b = mdv a.n 1000000 b.n := by unfold div; simp [h1, h2]
theorem div_no1 {a b : Vl} (h1 : num a = false) : div a b = none := by unfold div; simp [h1]
theorem div_no2 {a b : Vl} (h2 : num b = false) : div a b = none := by unfold div; simp [h2]

/-- What the library's two steps (the product's words, then their division) come to. -/
theorem words (p d : Nat) (hd : d ≤ p / 18446744073709551616) (h0 : 0 < d) : 18446744073709551616 ≤ p / d := by
  rw [Nat.le_div_iff_mul_le h0]
  have := Nat.div_mul_le_self p 18446744073709551616
  omega
theorem whole (p : Nat) : p / 18446744073709551616 * 18446744073709551616 + p % 18446744073709551616 = p := by omega

/-- Bit by bit: N's bits from number i + 1 on (i from 127 down to -1), by d. -/
structure Rm (N d : Nat) (i : Int) (q r : Int) (o : Bool) : Prop where
  lo : -1 ≤ i
  hi : i ≤ 127
  q0 : 0 ≤ q
  q1 : q ≤ 18446744073709551615
  rest : r = ((N / 2 ^ (i + 1).toNat % d : Nat) : Int)
  quot : if o then 9223372036854775808 ≤ N / 2 ^ (i + 1).toNat / d else q = ((N / 2 ^ (i + 1).toNat / d : Nat) : Int) ∧ q ≤ 9223372036854775807

theorem half_bit (N k : Nat) : N / 2 ^ k = 2 * (N / 2 ^ (k + 1)) + N / 2 ^ k % 2 := by
  rw [Nat.pow_succ, ← Nat.div_div_eq_div_mul]; omega

/-- One more bit. -/
theorem next_bit (A d β : Nat) (hd : 0 < d) (hβ : β < 2) :
    (if d ≤ 2 * (A % d) + β then (2 * A + β) % d = 2 * (A % d) + β - d ∧ (2 * A + β) / d = 2 * (A / d) + 1 else (2 * A + β) % d = 2 * (A % d) + β ∧ (2 * A + β) / d = 2 * (A / d)) := by
  have h := Nat.div_add_mod A d
  have hm := Nat.mod_lt A hd
  have e : 2 * A + β = (2 * (A % d) + β) + d * (2 * (A / d)) := by
    rw [Nat.mul_left_comm]
    generalize d * (A / d) = x at *
    omega
  rw [e, Nat.add_mul_mod_self_left, Nat.add_mul_div_left _ _ hd]
  split
  · rename_i hc
    have e2 : 2 * (A % d) + β = (2 * (A % d) + β - d) + d * 1 := by omega
    rw [e2, Nat.add_mul_mod_self_left, Nat.add_mul_div_left _ _ hd, Nat.mod_eq_of_lt (by omega), Nat.div_eq_of_lt (by omega)]
    omega
  · rename_i hc
    rw [Nat.mod_eq_of_lt (by omega), Nat.div_eq_of_lt (by omega)]
    omega

theorem rm_start (N d : Nat) (h : N < 340282366920938463463374607431768211456) : Rm N d 127 0 0 false := by
  have e : N / 2 ^ (127 + 1 : Int).toNat = 0 := by
    apply Nat.div_eq_of_lt
    show N < 2 ^ 128
    omega
  refine ⟨by omega, by omega, by omega, by omega, ?_, ?_⟩
  · rw [e, Nat.zero_mod]; rfl
  · rw [e, Nat.zero_div]; exact ⟨rfl, by omega⟩

theorem rm_rest {N d : Nat} {i q r : Int} {o : Bool} (h : Rm N d i q r o) (hd : 0 < d) : 0 ≤ r ∧ r < d := by
  rw [h.rest]
  have := Nat.mod_lt (N / 2 ^ (i + 1).toNat) hd
  omega

/-- A turn. -/
theorem rm_step {N d : Nat} {i q r : Int} {o : Bool} (h : Rm N d i q r o) (hi : 0 ≤ i) (hd : 0 < d) (β : Nat) (hβ : β = N / 2 ^ i.toNat % 2) (q2 : Int) (hq2 : q2 = q * 2 % 18446744073709551616) (s : Int) (hs : s = r * 2 + β) (o2 : Bool) (ho : o2 = (o || decide (4611686018427387904 ≤ q))) :
    ((d : Int) ≤ s → Rm N d (i - 1) (q2 + 1) (s - d) o2) ∧ (s < (d : Int) → Rm N d (i - 1) q2 s o2) := by
  obtain ⟨lo, hi2, q0, q1, hr, hq⟩ := h
  obtain ⟨k, rfl⟩ := Int.eq_ofNat_of_zero_le hi
  have e1 : ((k : Int) + 1).toNat = k + 1 := by omega
  have e2 : ((k : Int) - 1 + 1).toNat = k := by omega
  have hb := half_bit N k
  rw [Int.toNat_natCast] at hβ
  rw [← hβ] at hb
  rw [e1] at hr hq
  have hβ2 : β < 2 := by omega
  have hn := next_bit (N / 2 ^ (k + 1)) d β hd hβ2
  rw [← hb] at hn
  have hm := Nat.mod_lt (N / 2 ^ (k + 1)) hd
  have quot : ∀ δ : Nat, δ < 2 → N / 2 ^ k / d = 2 * (N / 2 ^ (k + 1) / d) + δ → (if o2 = true then 9223372036854775808 ≤ N / 2 ^ k / d else q2 + δ = ((N / 2 ^ k / d : Nat) : Int) ∧ q2 + δ ≤ 9223372036854775807) := by
    intro δ hδ hQ
    rw [hQ]
    generalize N / 2 ^ (k + 1) / d = Q at *
    cases o with
    | true =>
      rw [if_pos rfl] at hq
      rw [ho, Bool.true_or, if_pos rfl]
      omega
    | false =>
      rw [if_neg (by simp)] at hq
      rw [ho, Bool.false_or]
      by_cases hc : 4611686018427387904 ≤ q
      · rw [if_pos (by simpa using hc)]
        omega
      · rw [if_neg (by simpa using hc)]
        omega
  have q2b : 0 ≤ q2 ∧ q2 ≤ 18446744073709551614 := by omega
  constructor
  · intro hds
    rw [if_pos (by omega)] at hn
    refine ⟨by omega, by omega, by omega, by omega, ?_, ?_⟩
    · rw [e2, hn.1]; omega
    · rw [e2]; exact quot 1 (by omega) hn.2
  · intro hds
    rw [if_neg (by omega)] at hn
    refine ⟨by omega, by omega, by omega, by omega, ?_, ?_⟩
    · rw [e2, hn.1]; omega
    · rw [e2]; have := quot 0 (by omega) (by rw [hn.2]; rfl); rw [Int.natCast_zero, Int.add_zero] at this; exact this

/-- Behind the last turn. -/
theorem rm_end {N d : Nat} {i q r : Int} {o : Bool} (h : Rm N d i q r o) (hi : i < 0) : r = ((N % d : Nat) : Int) ∧ (o = true → 9223372036854775808 ≤ N / d) ∧ (o = false → q = ((N / d : Nat) : Int) ∧ q ≤ 9223372036854775807) := by
  obtain ⟨lo, hi2, q0, q1, hr, hq⟩ := h
  have e : (i + 1).toNat = 0 := by omega
  rw [e, Nat.pow_zero, Nat.div_one] at hr hq
  refine ⟨hr, fun ho => ?_, fun ho => ?_⟩
  · rw [if_pos ho] at hq; exact hq
  · rw [if_neg (by simp [ho])] at hq; exact hq

theorem bit_low (N m : Nat) (hm : m < 64) : N % 18446744073709551616 / 2 ^ m % 2 = N / 2 ^ m % 2 := by
  have e : (18446744073709551616 : Nat) = 2 ^ m * 2 ^ (64 - m) := by rw [← Nat.pow_add, show m + (64 - m) = 64 by omega]
  rw [e, Nat.mod_mul_right_div_self]
  have e3 : 64 - m = (63 - m) + 1 := by omega
  rw [e3, Nat.pow_succ, Nat.mod_mul_left_mod]
theorem bit_high (N m : Nat) : N / 18446744073709551616 / 2 ^ m % 2 = N / 2 ^ (64 + m) % 2 := by
  rw [Nat.div_div_eq_div_mul, Nat.pow_add]

theorem halves_q (a q c r : Int) (h : q * c + r = a) (hc : 1 ≤ c) (hr0 : 0 ≤ r) (hr : r < c) :
    (0 ≤ a → (rnd (mag a) (mag c) : Int) = if c ≤ 2 * r then q + 1 else q) ∧ (a < 0 → (rnd (mag a) (mag c) : Int) = if 2 * r ≤ c then -q else -q - 1) := by
  obtain ⟨C, rfl⟩ := Int.eq_ofNat_of_zero_le (show 0 ≤ c by omega)
  obtain ⟨R, rfl⟩ := Int.eq_ofNat_of_zero_le hr0
  have hmc : mag (C : Int) = C := by unfold mag; omega
  rw [hmc]
  have hC : 0 < C := by omega
  constructor
  · intro ha
    have hq : 0 ≤ q := by
      apply Int.not_lt.1
      intro hq
      have := Int.mul_le_mul_of_nonneg_right (show q ≤ -1 by omega) (show (0 : Int) ≤ (C : Int) by omega)
      omega
    obtain ⟨Q, rfl⟩ := Int.eq_ofNat_of_zero_le hq
    have hA : mag a = R + C * Q := by
      unfold mag; rw [← h, ← Int.natCast_mul, ← Int.natCast_add, Int.natAbs_natCast, Nat.mul_comm, Nat.add_comm]
    have hd : mag a / C = Q := by rw [hA, Nat.add_mul_div_left _ _ hC, Nat.div_eq_of_lt (by omega)]; omega
    have hm : mag a % C = R := by rw [hA, Nat.add_mul_mod_self_left, Nat.mod_eq_of_lt (by omega)]
    unfold rnd
    rw [hd, hm]
    by_cases h2 : C ≤ 2 * R
    · rw [if_pos h2, if_pos (by omega)]; omega
    · rw [if_neg h2, if_neg (by omega)]
  · intro ha
    have hq : q ≤ -1 := by
      apply Int.not_lt.1
      intro hq
      have := Int.mul_nonneg (show 0 ≤ q by omega) (show (0 : Int) ≤ (C : Int) by omega)
      omega
    by_cases hR : R = 0
    · subst hR
      obtain ⟨Q, hQ⟩ := Int.eq_ofNat_of_zero_le (show 0 ≤ -q by omega)
      have hA : mag a = C * Q := by
        unfold mag
        have : a = -((C * Q : Nat) : Int) := by rw [Int.natCast_mul, ← hQ, ← h, Int.mul_neg, Int.neg_neg, Int.mul_comm]; omega
        rw [this, Int.natAbs_neg, Int.natAbs_natCast]
      have hd : mag a / C = Q := by rw [hA, Nat.mul_div_cancel_left _ hC]
      have hm : mag a % C = 0 := by rw [hA, Nat.mul_mod_right]
      unfold rnd
      rw [hd, hm, if_neg (by omega), if_pos (by omega)]
      omega
    · obtain ⟨Q, hQ⟩ := Int.eq_ofNat_of_zero_le (show 0 ≤ -q - 1 by omega)
      have hA : mag a = (C - R) + C * Q := by
        have e : ((C - R + C * Q : Nat) : Int) = -a := by
          have hx : (C : Int) * (Q : Int) = -(q * C) - C := by rw [← hQ, Int.mul_sub, Int.mul_neg, Int.mul_comm q]; omega
          rw [Int.natCast_add, Int.natCast_mul, hx]; omega
        unfold mag
        have : a = -((C - R + C * Q : Nat) : Int) := by omega
        rw [this, Int.natAbs_neg, Int.natAbs_natCast]
      have hd : mag a / C = Q := by rw [hA, Nat.add_mul_div_left _ _ hC, Nat.div_eq_of_lt (by omega)]; omega
      have hm : mag a % C = C - R := by rw [hA, Nat.add_mul_mod_self_left, Nat.mod_eq_of_lt (by omega)]
      unfold rnd
      rw [hd, hm]
      by_cases h2 : C ≤ 2 * (C - R)
      · rw [if_pos h2, if_pos (by omega)]; omega
      · rw [if_neg h2, if_neg (by omega)]; omega

/-- What FixedHalves asks, of both calls. -/
theorem halves (a q c r w : Int) (h : q * c + r = a) (hc : 1 ≤ c) (hr0 : 0 ≤ r) (hr : r < c) (hq1 : -1073741824 ≤ q) (hq2 : q ≤ 1073741824)
    (hw : w = if c < 2 * r ∨ (2 * r = c ∧ 0 < a) then q + 1 else q) :
    (mdn a 1 c = w ∧ mdok a 1 c = true) ∧ (mdn 1 (-a) (-c) = w ∧ mdok 1 (-a) (-c) = true) := by
  obtain ⟨h1, h2⟩ := halves_q a q c r h hc hr0 hr
  have m1 : mag 1 = 1 := rfl
  have ma : mag (-a) = mag a := by unfold mag; omega
  have mc : mag (-c) = mag c := by unfold mag; omega
  have e1 : mdq a 1 c = rnd (mag a) (mag c) := by unfold mdq; rw [m1, Nat.mul_one]
  have e2 : mdq 1 (-a) (-c) = rnd (mag a) (mag c) := by unfold mdq; rw [m1, Nat.one_mul, ma, mc]
  have hb : (rnd (mag a) (mag c) : Int) ≤ 1073741825 := by
    by_cases ha : 0 ≤ a
    · rw [h1 ha]; split <;> omega
    · rw [h2 (by omega)]; split <;> omega
  have o1 := mdok_yes (a := a) (b := 1) (c := c) (by omega) (by rw [e1]; omega)
  have o2 := mdok_yes (a := 1) (b := -a) (c := -c) (by omega) (by rw [e2]; omega)
  refine ⟨⟨?_, o1⟩, ?_, o2⟩
  · by_cases ha : 0 ≤ a
    · rw [mdn_pos o1 (by unfold neg3; rw [show decide (a < 0) = false by simp; omega, show decide (c < 0) = false by simp; omega]; rfl), e1, h1 ha, hw]
      by_cases hz : a = 0
      · have hq0 : q = 0 ∧ r = 0 := by
          have hqq : q = 0 := by
            by_cases hq : 1 ≤ q
            · have := Int.mul_le_mul_of_nonneg_right hq (show (0 : Int) ≤ c by omega)
              omega
            · by_cases hq' : q ≤ -1
              · have := Int.mul_le_mul_of_nonneg_right hq' (show (0 : Int) ≤ c by omega)
                omega
              · omega
          rw [hqq, Int.zero_mul] at h
          omega
        rw [if_neg (by omega), if_neg (by omega)]
      · by_cases h3 : c ≤ 2 * r
        · rw [if_pos h3, if_pos (by omega)]
        · rw [if_neg h3, if_neg (by omega)]
    · rw [mdn_neg o1 (by unfold neg3; rw [show decide (a < 0) = true by simp; omega, show decide (c < 0) = false by simp; omega]; rfl), e1, h2 (by omega), hw]
      by_cases h3 : 2 * r ≤ c
      · rw [if_pos h3, if_neg (by omega)]; omega
      · rw [if_neg h3, if_pos (by omega)]; omega
  · by_cases ha : 0 < a
    · rw [mdn_pos o2 (by unfold neg3; rw [show decide (-a < 0) = true by simp; omega, show decide (-c < 0) = true by simp; omega]; rfl), e2, h1 (by omega), hw]
      by_cases h3 : c ≤ 2 * r
      · rw [if_pos h3, if_pos (by omega)]
      · rw [if_neg h3, if_neg (by omega)]
    · rw [mdn_neg o2 (by unfold neg3; rw [show decide (-a < 0) = false by simp; omega, show decide (-c < 0) = true by simp; omega]; rfl), e2, hw]
      by_cases hz : a = 0
      · have hq0 : q = 0 ∧ r = 0 := by
          have hqq : q = 0 := by
            by_cases hq : 1 ≤ q
            · have := Int.mul_le_mul_of_nonneg_right hq (show (0 : Int) ≤ c by omega)
              omega
            · by_cases hq' : q ≤ -1
              · have := Int.mul_le_mul_of_nonneg_right hq' (show (0 : Int) ≤ c by omega)
                omega
              · omega
          rw [hqq, Int.zero_mul] at h
          omega
        rw [h1 (by omega), if_neg (by omega), if_neg (by omega)]; omega
      · rw [h2 (by omega)]
        by_cases h3 : 2 * r ≤ c
        · rw [if_pos h3, if_neg (by omega)]; omega
        · rw [if_neg h3, if_pos (by omega)]; omega
end Fx
end Go.Proofs.YtbhfapbhlkgmfaaDoor
