/-
  CONTRACTS: chapter 5's writer: numbers put as bytes, the most significant one first; what was put taken out.
-/
import Derived.Test.YtefegcmicnlphaaOwnB
import Derived.Deep.RegionLaw
namespace Go.Proofs.Ytefegcmicnlphaa
open Go.RowKit Go.Sort
open Me

namespace Sl
/-- The byte of n that stands k bytes ahead of its end. -/
def bt (n : Int) (k : Nat) : UInt8 := UInt8.ofNat ((n / (2 : Int) ^ (8 * k)) % 256).toNat
def lim (a : Int) : Int := min (max a 0) 4294967295
def beb (n : Int) : Nat → List UInt8
  | 0 => []
  | k + 1 => bt n k :: beb n k
theorem beb_len (n : Int) (k : Nat) : (beb n k).length = k := by induction k with
  | zero => rfl
  | succ k ih => unfold beb; simp [ih]
theorem by8_bt (n : Int) (k : Nat) : by8 [bt n k] = [.int .u8 (n / (2 : Int) ^ (8 * k) % 256)] := by
  unfold by8 bt
  simp only [List.map_cons, List.map_nil, Wh.u8of]
/-- A point's memory: its row, its numbers. -/
def ptC (v : Value) (a n : Int) : Obj := .cells #[v, .int .i64 a, .int .i64 n] 44
/-- A point whose row is L. -/
def Pst (w0 : World) (g : Nat) (lr : Option Nat) (a n : Int) (L : List UInt8) (w : World) : Prop :=
  ∃ v, w.heap[g]? = some (ptC v a n) ∧ OwnB 0 w v L ∧ Kp (fun b => b = g ∨ lr = some b) w0 w ∧ (v.ownBlock = lr ∨ ∃ b, v.ownBlock = some b ∧ w0.heap.size ≤ b)
theorem pt_cells {w : World} {g : Nat} {v : Value} {a n : Int} (h : w.heap[g]? = some (ptC v a n)) :
    w.cell? ⟨g, 0, none⟩ = some v ∧ w.cell? ⟨g, 1, none⟩ = some (.int .i64 a) ∧ w.cell? ⟨g, 2, none⟩ = some (.int .i64 n) ∧ (∀ i, w.frozen? ⟨g, i, none⟩ = false) ∧ g < w.heap.size := by
  unfold ptC at h
  refine ⟨?_, ?_, ?_, fun i => ?_, (Array.getElem?_eq_some_iff.1 h).1⟩
  · rw [cell_of_row w g 0 _ _ (0, 0) h]; rfl
  · rw [cell_of_row w g 1 _ _ (0, 0) h]; rfl
  · rw [cell_of_row w g 2 _ _ (0, 0) h]; rfl
  · simp [World.frozen?, h]
theorem row_ne {w : World} {g : Nat} {v v' : Value} {a n : Int} {L : List UInt8} (h : w.heap[g]? = some (ptC v' a n)) (ho : OwnB 0 w v L) : v.ownBlock ≠ some g := by
  intro e
  rcases ho.2 with ⟨rfl, _⟩ | ⟨g', cap, cur, rfl, _, hh, _⟩
  · cases e
  · have : g' = g := by simpa [Value.ownBlock] using e
    subst this
    rw [h] at hh
    unfold ptC at hh
    simp at hh
theorem heap_cell0 {w : World} {g : Nat} {v : Value} {a n : Int} (h : w.heap[g]? = some (ptC v a n)) (u : Value) : (w.setCell ⟨g, 0, none⟩ u).heap[g]? = some (ptC u a n) := by
  unfold ptC at *
  simp [World.setCell, Array.getElem?_modify, h]
/-- Behind a byte's append and its store. -/
theorem Pst.put {w0 w w2 : World} {o : Obj} {g : Nat} {lr : Option Nat} {a n : Int} {X : List UInt8} {v v2 : Value} (hg : w.heap[g]? = some (ptC v a n)) (hk : Kp (fun b => b = g ∨ lr = some b) w0 w) (hfr : v.ownBlock = lr ∨ ∃ b, v.ownBlock = some b ∧ w0.heap.size ≤ b)
    (hne : v.ownBlock ≠ some g) (ho : OwnB 0 w2 v2 X) (hgr : (w.alloc o).grownBy w2 v.ownBlock) (hat : v2.ownBlock = v.ownBlock ∨ v2.ownBlock = some (w.alloc o).heap.size) : Pst w0 g lr a n X (w2.setCell ⟨g, 0, none⟩ v2) := by
  have gl : g < w.heap.size := (Array.getElem?_eq_some_iff.1 hg).1
  have h2 : w2.heap[g]? = some (ptC v a n) := (hgr.block g (by simp; omega) (fun e => hne e.symm)).trans ((Below.heap_alloc w o g gl).trans hg)
  refine ⟨v2, heap_cell0 h2 v2, owns_keep ho (fun b hb => Below.heap_setCell w2 ⟨g, 0, none⟩ _ b ?_), ?_, ?_⟩
  · show b ≠ g
    rintro rfl
    rcases hat with e | e
    · exact hne (e ▸ hb)
    · rw [hb] at e; simp at e; omega
  · refine ((hk.alloc o).grown hgr (fun b hb => ?_)).setCell ⟨g, 0, none⟩ (.inr (.inl rfl)) _
    rcases hfr with e | ⟨c, e, hc⟩
    · exact .inr (.inr (e ▸ hb))
    · rw [e] at hb
      injection hb with hb
      exact .inl (hb ▸ hc)
  · rcases hat with e | e
    · rw [e]; exact hfr
    · exact .inr ⟨_, e, Nat.le_trans hk.size (by simp)⟩
theorem Pst.drew {w0 w : World} {g : Nat} {lr : Option Nat} {a n : Int} {X : List UInt8} (h : Pst w0 g lr a n X w) : Pst w0 g lr a n X w.drew := by
  obtain ⟨v, h1, h2, h3, h4⟩ := h
  exact ⟨v, h1, h2, h3.drew, h4⟩
end Sl

set_option maxHeartbeats 2000000 in
theorem sput_any {w : World} {g : Nat} {v : Value} {a n : Int} {L : List UInt8} (hg : w.heap[g]? = some (Sl.ptC v a n)) (hown : OwnB 0 w v L) (hL : L.length ≤ 100) (x : Int) (size : Nat) (hs : size ≤ 8) :
    Calls Try.prog 25 #[.pointer (some ⟨g, 0, none⟩), .int .i64 x, .int .i64 size] w fun e w' => e = .returned (.tuple #[]) ∧ Sl.Pst w g v.ownBlock a n (L ++ Sl.beb x size) w' := by
  obtain ⟨j0, hj0, hy0, hy1, hy2⟩ := info_parts u8info
  have HJ := Lib.hid hj0
  have HY := Lib.hid (And.intro hy0 (And.intro hy1 hy2))
  clear hj0 hy0 hy1 hy2
  have H0 : Hid (Sl.Pst w g v.ownBlock a n L w) := Lib.hid ⟨v, hg, hown, Kp.refl _ _, .inl rfl⟩
  generalize v.ownBlock = lr at *
  clear hg hown
  go_enter Try.func25, Try.ntmps25
  go_wp2_with fail
  go_loopw [6] (fun i wr => ∃ (k : Nat) (X : List UInt8), k ≤ size ∧ i = .int .i64 ((k : Int) - 1) ∧ Hid (X ++ Sl.beb x k = L ++ Sl.beb x size) ∧ Hid (Sl.Pst w g lr a n X wr)) (fun i _ => (intOf i + 1).toNat)
  case atStart => exact ⟨size, L, Nat.le_refl _, rfl, Lib.hid rfl, H0⟩
  case round =>
    obtain ⟨k, X, hk, rfl, hx, hp⟩ := hrel
    obtain ⟨v, h1, h2, h3, h4⟩ := hp.out
    obtain ⟨d0, d1, d2, d3, d4⟩ := Sl.pt_cells h1
    have df := d3 0
    clear d3
    obtain ⟨A, m, c, rfl⟩ := own_slice h2
    cases k with
    | zero =>
      go_wp2_with fail
      ((try simp only [Exit.inBlock, Exit.then]); first | (refine bodyPost_ret (results_none rfl _ _ _) rfl ?_) | (refine bodyPost_end (results_none rfl _ _ _) rfl ?_))
      exact ⟨rfl, by have := hx.out; simp only [Sl.beb, List.append_nil] at this; rw [← this]; exact hp.out⟩
    | succ k =>
      have hki : ((k + 1 : Nat) : Int) - 1 = (k : Int) := by omega
      rw [hki]
      have hq8 := Sl.by8_bt x k
      have hkk : (k : Int) ≤ 7 := by omega
      obtain ⟨y, q, hwy, hsh, hz⟩ : ∃ y q : Int, IntKind.i64.wrap (8 * (k : Int)) = y ∧ Op.shift .shr .i64 x .i64 y = pure (.int .i64 q) ∧ IntKind.u8.wrap q = x / (2 : Int) ^ (8 * k) % 256 := by
        refine ⟨8 * (k : Int), x / (2 : Int) ^ (8 * k), IntWalk.i64_in _ (by omega), ?_, ?_⟩
        · rw [shift_shr .i64 .i64 x (8 * (k : Int)) (by omega) (by show _ ≤ (64 : Int); omega)]
          have : (8 * (k : Int)).toNat = 8 * k := by omega
          rw [this]
        · rw [IntKind.wrap_u8]
      generalize x / (2 : Int) ^ (8 * k) % 256 = z at *
      have HOW : Hid ((wr.alloc (.cells #[.int .u8 z] 5)).ownsRow 0 5 1 (.slice A m c) X.length (by8 X)) := Lib.hid (owns_keep h2 fun b hb => Below.heap_alloc _ _ _ (own_lt h2 b hb).2)
      have HRD : Hid (Rd (wr.alloc (.cells #[.int .u8 z] 5)) (fun b => b = wr.heap.size) (some ⟨wr.heap.size, 0, none⟩) [.int .u8 z]) := Lib.hid (Rd.fresh wr [.int .u8 z] 5 _ rfl)
      have hne := Sl.row_ne h1 h2
      have HNE := Lib.hid hne
      have HG := Lib.hid h1
      have HK := Lib.hid h3
      have HFR := Lib.hid h4
      have hXl : X.length ≤ 108 := by
        have := congrArg List.length hx.out
        rw [List.length_append, List.length_append, Sl.beb_len, Sl.beb_len] at this
        omega
      have hX2 : X.length + 1 ≤ maxLen := by unfold maxLen; omega
      have HXM : Hid (∀ w2 v2, w2.ownsRow 0 5 1 v2 (X.length + 1) (by8 X ++ [.int .u8 z]) → OwnB 0 w2 v2 (X ++ [Sl.bt x k])) := Lib.hid fun w2 v2 h => by
        refine own_more (Y := [Sl.bt x k]) rfl ?_
        rw [hq8]
        exact h
      have HXE : Hid ((X ++ [Sl.bt x k]) ++ Sl.beb x k = L ++ Sl.beb x size) := Lib.hid (by rw [← hx.out, List.append_assoc]; rfl)
      generalize X ++ [Sl.bt x k] = X2 at *
      clear hx hp h1 h2 h3 h4 hne hq8
      go_wp2_with fail
      go_region_law (refine step_app _ rfl (.tmp 17) (.tmp 23) 30 rfl 0 5 j0 (.int .u8 0) 1 1 Try.underlying30 HJ.out HY.out.1 HY.out.2.1 HY.out.2.2 rfl (by decide) (.slice A m c) X.length (by8 X) (by simp [Act.eval]) HOW.out (fun b => b = wr.heap.size) (some ⟨wr.heap.size, 0, none⟩) 1 1 [.int .u8 z] (by simp [Act.eval]) (by simp) HRD.out (by intro u hu; simp at hu; subst hu; rfl) hX2 (by omega) (Nat.zero_le _) ?_; intro v2 w2 hown2 hg2 hat2 hnil2; have d0' : w2.cell? ⟨g, 0, none⟩ = some (.slice A m c) := (hg2.cell_far ⟨g, 0, none⟩ (by show g < _; simp; omega) (fun e => HNE.out e.symm)).trans ((World.cell?_alloc_lt _ _ _ d4).trans d0); have df' : w2.frozen? ⟨g, 0, none⟩ = false := (hg2.frozen_far ⟨g, 0, none⟩ (by show g < _; simp; omega) (fun e => HNE.out e.symm)).trans ((World.frozen?_of_block (Below.heap_alloc _ _ g d4)).trans df); have HO2 := Lib.hid (HXM.out _ _ hown2); have HG2 := Lib.hid hg2; have HA2 := Lib.hid hat2; obtain ⟨A2, m2, c2, rfl⟩ := own_slice hown2; clear hown2 hg2 hat2 hnil2)
      all_goals
        go_wp2_with fail
        go_roundw
        case rel => exact ⟨k, X2, by omega, by go_num, HXE, Lib.hid (Sl.Pst.put (w := wr.drew) HG.out HK.out.drew HFR.out HNE.out HO2.out HG2.out HA2.out)⟩
        case measure => first | (simp [intOf]; done) | (simp [intOf]; omega)

/-- The row is taken out; a new one begins. -/
theorem stake_any {w : World} {g : Nat} {v : Value} {a n : Int} {L : List UInt8} (hg : w.heap[g]? = some (Sl.ptC v a n)) (hown : OwnB 0 w v L) :
    Calls Try.prog 21 #[.pointer (some ⟨g, 0, none⟩)] w fun e w' => e = .returned v ∧ w' = w.setCell ⟨g, 0, none⟩ (.slice none 0 0) := by
  obtain ⟨d0, _, _, d3, d4⟩ := Sl.pt_cells hg
  have df := d3 0
  obtain ⟨A, m, c, rfl⟩ := own_slice hown
  clear hg hown d3
  go_enter Try.func21, Try.ntmps21
  go_wp2_with fail
  go_ret
  exact ⟨rfl, rfl⟩

theorem pointOf_any (a n : Int) (w : World) :
    Calls Try.prog 18 #[.agg #[.int .i64 a, .int .i64 n]] w fun e w' => e = .returned (.pointer (some ⟨w.heap.size + 1, 0, none⟩)) ∧ w' = (w.alloc (.cells #[.int .i64 a, .int .i64 n] 29)).alloc (Sl.ptC (.slice none 0 0) (Sl.lim a) n) := by
  rcases (by omega : a < 0 ∨ (0 ≤ a ∧ a ≤ 4294967295) ∨ 4294967295 < a) with h | h | h
  · have H : Hid (Sl.lim a = 0) := Lib.hid (by unfold Sl.lim; omega)
    go_enter Try.func18, Try.ntmps18
    go_wp2_with fail
    go_ret
    exact ⟨rfl, by rw [H.out]; rfl⟩
  · have H : Hid (Sl.lim a = a) := Lib.hid (by unfold Sl.lim; omega)
    go_enter Try.func18, Try.ntmps18
    go_wp2_with fail
    go_ret
    exact ⟨rfl, by rw [H.out]; rfl⟩
  · have H : Hid (Sl.lim a = 4294967295) := Lib.hid (by unfold Sl.lim; omega)
    go_enter Try.func18, Try.ntmps18
    go_wp2_with fail
    go_ret
    exact ⟨rfl, by rw [H.out]; rfl⟩
end Go.Proofs.Ytefegcmicnlphaa
