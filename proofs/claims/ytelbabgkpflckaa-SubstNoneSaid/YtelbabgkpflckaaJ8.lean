/-
  PkLike: CHAPTER 12, LAWS: a program as the document's (like).
  RxSet: CONTRACTS: chapter 11: a set of bytes as an array of 256 bools: add, join, invert.
  RxLen: CHAPTER 11, PLAIN: what is left grows shorter; how many instructions there may be.
  RxPairs: CONTRACTS: chapter 11: the runs of a set.
-/
import Derived.Test.YtelbabgkpflckaaJ6
import Derived.Laws.ResultCell
import Derived.RegionTactic
import Derived.Deep.RegionLaw
import Derived.Test.YtelbabgkpflckaaJ1
import Derived.Test.YtelbabgkpflckaaJ5

set_option linter.unusedSimpArgs false
set_option linter.unusedVariables false
namespace Go.Proofs.Ytelbabgkpflckaa
open Go.RowKit Go.Sort
open Me
open Pk

namespace Pk
theorem results_cell1 {fn : Func} {p : Tmp} {ty : TypeId} (h : fn.results = #[.cell p ty]) (tmps : Array Value) (P : Program) (w : World) :
    (results fn tmps).run P w = ((asAddr (tmps.getD p undef)).run P w).andThen fun a w₁ => ((loadVar ty a).run P w₁).andThen fun v w₂ => .ok v w₂ := by
  simp only [results, h]
  simp [Sem.run_bind, Result.andThen]
  cases Sem.run P (asAddr (tmps[p]?.getD undef)) w with
  | ok a w1 => cases h2 : Sem.run P (loadVar ty a) w1 <;> simp [h2]
  | halt h w1 => rfl
theorem inst_info : (Try.prog.info? 57).map (fun i => (i.zero, i.size, i.bytes)) = some (some (.agg #[.int .i64 0, .int .i64 0, .int .i64 0, .string ⟨#[]⟩]), 4, 40) := by kernel_rfl
end Pk

set_option maxRecDepth 100000 in
set_option maxHeartbeats 4000000 in
theorem like_any {W : World} {A : Option Addr} {cp : Nat} {L : List Rx.In} {G : Int} (hp : Rd W (fun _ => True) A (icells L)) (hL : L.length ≤ 4096) :
    Calls Try.prog 11 #[.agg #[.int .i64 G, .slice A L.length cp]] W fun e W' => ∃ A2 c2, e = .returned (.agg #[.int .i64 G, .slice A2 L.length c2]) ∧ Below W.heap.size W W' ∧ Rd W' (fun i => W.heap.size ≤ i) A2 (icells L) := by
  obtain ⟨i0, hi0, hz0, hz1, hz2⟩ := info_parts Pk.inst_info
  have HI := Lib.hid hi0
  have HZ := Lib.hid (And.intro hz0 (And.intro hz1 hz2))
  clear hi0 hz0 hz1 hz2
  have HP := Lib.hid hp
  clear hp
  obtain ⟨pb, hpb⟩ : ∃ pb, pb = W.heap.size := ⟨_, rfl⟩
  have hW0 : RowAt (((W.alloc (.cells #[.int .i64 G, .slice A L.length cp] 24)).alloc (.cells #[.int .i64 0, .slice none 0 0] 34)).alloc (.cells #[.int .i64 G, .slice none 0 0] 34)) (pb + 2) 34 #[.int .i64 G, .slice none 0 0] := RowAt.new' (by simp; omega)
  have hW1 : RowAt (((W.alloc (.cells #[.int .i64 G, .slice A L.length cp] 24)).alloc (.cells #[.int .i64 0, .slice none 0 0] 34)).alloc (.cells #[.int .i64 G, .slice none 0 0] 34)) (pb + 1) 34 #[.int .i64 0, .slice none 0 0] := (RowAt.new' (by simp; omega)).alloc _
  have hW2 : RowAt (((W.alloc (.cells #[.int .i64 G, .slice A L.length cp] 24)).alloc (.cells #[.int .i64 0, .slice none 0 0] 34)).alloc (.cells #[.int .i64 G, .slice none 0 0] 34)) pb 24 #[.int .i64 G, .slice A L.length cp] := ((RowAt.new' hpb).alloc _).alloc _
  have hB0 : Below W.heap.size W (((W.alloc (.cells #[.int .i64 G, .slice A L.length cp] 24)).alloc (.cells #[.int .i64 0, .slice none 0 0] 34)).alloc (.cells #[.int .i64 G, .slice none 0 0] 34)) := (((Below.refl _ _).alloc (Nat.le_refl _) _).alloc (by simp) _).alloc (by simp; omega) _
  have HW0 := Lib.hid hW0
  have HW1 := Lib.hid hW1
  have HW2 := Lib.hid hW2
  have HB0 := Lib.hid hB0
  have HPB := Lib.hid hpb
  clear hW0 hW1 hW2 hB0
  go_enter Try.func11, Try.ntmps11
  go_wp2_with fail
  rw [← hpb]
  clear hpb
  generalize ((W.alloc (.cells #[.int .i64 G, .slice A L.length cp] 24)).alloc (.cells #[.int .i64 0, .slice none 0 0] 34)).alloc (.cells #[.int .i64 G, .slice none 0 0] 34) = wb at *
  go_loopw [4] (fun x wr => ∃ i : Nat, x = .int .i64 (i : Int) ∧ i ≤ L.length ∧ Hid (Below (pb + 2) wb wr) ∧ Hid (∃ A2 c2, RowAt wr (pb + 2) 34 #[.int .i64 G, .slice A2 i c2] ∧ wr.ownsRow (pb + 3) 57 4 (.slice A2 i c2) i (icells (L.take i)))) (fun x _ => L.length - (intOf x).toNat)
  case atStart => exact ⟨0, rfl, Nat.zero_le _, Lib.hid (Below.refl _ _), Lib.hid ⟨none, 0, HW0.out, by simp [icells], .inl ⟨rfl, rfl⟩⟩⟩
  case round =>
    obtain ⟨i, rfl, hi, HB, H1⟩ := hrel
    obtain ⟨A2, c2, hq, ho⟩ := H1.out
    clear H1
    have hw2 := HW0.out.lt
    have hsr := HB.out.size
    have e1 : wr.cell? ⟨pb, 1, none⟩ = some (.slice A L.length cp) := (HB.out.cell (p := ⟨pb, 1, none⟩) (by show pb < pb + 2; omega)).trans ((HW2.out.cell 1).trans rfl)
    have q1 : wr.cell? ⟨pb + 2, 1, none⟩ = some (.slice A2 i c2) := (hq.cell 1).trans rfl
    have q0 : wr.cell? ⟨pb + 2, 0, none⟩ = some (.int .i64 G) := (hq.cell 0).trans rfl
    have qf := hq.frozen 1
    have ql := hq.lt
    have HQ := Lib.hid hq
    have HO := Lib.hid ho
    by_cases hlt : i < L.length
    · have hltI : (i : Int) < (L.length : Int) := by omega
      have hi0 : (0 : Int) ≤ (i : Int) := by omega
      obtain ⟨x, hx⟩ : ∃ x, L[i] = x := ⟨_, rfl⟩
      have hfx : Pk.fetch L (i : Int) = some x := by unfold Pk.fetch; rw [if_pos hi0, Int.toNat_natCast, List.getElem?_eq_getElem hlt, hx]
      have hpb2 : Rd wb (fun j => j < W.heap.size) A (icells L) := fun h => by
        obtain ⟨ad, e, h1, _, h3⟩ := HP.out h
        exact ⟨ad, e, Nat.lt_of_lt_of_le h1 HB0.out.size, h1, fun j u hu => (World.cell?_of_block (by rw [Me.block_add]; exact HB0.out.block _ h1)).trans (h3 j u hu)⟩
      have hpw : Rd wr (fun j => j < W.heap.size) A (icells L) := hpb2.keep HB.out.size fun j _ hj => HB.out.block j (by have := HPB.out; have hj : j < W.heap.size := hj; omega)
      obtain ⟨ib, io, hA, hil, j0, j1, j2, j3, hib⟩ := Pk.prog_cells2 hpw hfx
      have hib : ib < W.heap.size := hib
      have hibq : ¬ pb + 2 = ib := by have := HPB.out; omega
      rw [Int.toNat_natCast] at j0 j1 j2 j3
      clear hpb2 hpw
      subst hA
      obtain ⟨xop, xx, xy, xp⟩ := x
      have hlen : i + 1 ≤ maxLen := by unfold maxLen; omega
      have HOA : Hid ((wr.alloc (.cells #[.int .i64 xop, .int .i64 xx, .int .i64 xy, .string ⟨xp.toArray⟩] 57)).ownsRow (pb + 3) 57 4 (.slice A2 i c2) i (icells (L.take i))) := Lib.hid (ho.alloc _)
      have HRD : Hid (Rd (wr.alloc (.cells #[.int .i64 xop, .int .i64 xx, .int .i64 xy, .string ⟨xp.toArray⟩] 57)) (fun b => b = wr.heap.size) (some ⟨wr.heap.size, 0, none⟩) [.int .i64 xop, .int .i64 xx, .int .i64 xy, .string ⟨xp.toArray⟩]) := Lib.hid (Rd.fresh wr [.int .i64 xop, .int .i64 xx, .int .i64 xy, .string ⟨xp.toArray⟩] 57 _ rfl)
      have HNE : Hid (∀ b, (Value.slice A2 i c2).ownBlock = some b → pb + 3 ≤ b ∧ b < wr.heap.size) := Lib.hid fun b hb => World.ownsRow.lt ho b hb
      have HTK : Hid (icells (L.take (i + 1)) = icells (L.take i) ++ [.int .i64 xop, .int .i64 xx, .int .i64 xy, .string ⟨xp.toArray⟩]) := Lib.hid (by
        rw [List.take_add_one, List.getElem?_eq_getElem hlt, hx]
        unfold icells
        rw [List.flatMap_append]
        rfl)
      clear hq ho hx hfx
      go_wp2_with fail
      go_region_law (refine step_app _ rfl (.tmp 16) (.tmp 22) 32 rfl (pb + 3) 57 i0 _ 4 40 Try.underlying32 HI.out HZ.out.1 HZ.out.2.1 HZ.out.2.2 rfl (by decide) (.slice A2 i c2) i (icells (L.take i)) (by simp [Act.eval]) HOA.out (fun b => b = wr.heap.size) (some ⟨wr.heap.size, 0, none⟩) 1 1 [.int .i64 xop, .int .i64 xx, .int .i64 xy, .string ⟨xp.toArray⟩] (by simp [Act.eval]) (by simp) HRD.out (by intro u hu; simp at hu; rcases hu with rfl | rfl | rfl | rfl <;> rfl) hlen (by omega) (by simp; omega) ?_; intro v2 w2 hown2 hg2 hat2 hnil2; have d0' : w2.cell? ⟨pb + 2, 1, none⟩ = some (.slice A2 i c2) := (hg2.cell_far ⟨pb + 2, 1, none⟩ (by show pb + 2 < _; simp; omega) (fun e => by have := (HNE.out (pb + 2) e.symm).1; omega)).trans ((World.cell?_alloc_lt _ _ _ ql).trans q1); have df' : w2.frozen? ⟨pb + 2, 1, none⟩ = false := (hg2.frozen_far ⟨pb + 2, 1, none⟩ (by show pb + 2 < _; simp; omega) (fun e => by have := (HNE.out (pb + 2) e.symm).1; omega)).trans ((World.frozen?_of_block (Below.heap_alloc _ _ (pb + 2) ql)).trans qf); have HO2 := Lib.hid hown2; have HG2 : Hid (World.grownBy (wr.alloc (.cells #[.int .i64 xop, .int .i64 xx, .int .i64 xy, .string ⟨xp.toArray⟩] 57)) w2 (Value.slice A2 i c2).ownBlock) := Lib.hid ⟨hg2.os, hg2.tape, hg2.output, hg2.size, hg2.block⟩; obtain ⟨A3, c3, rfl⟩ := own_form hown2; clear hown2 hg2 hat2 hnil2)
      all_goals
        try go_simp
        have hrow2 : RowAt (w2.setCell ⟨pb + 2, 1, none⟩ (.slice A3 (i + 1) c3)) (pb + 2) 34 #[.int .i64 G, .slice A3 (i + 1) c3] := by
          have h1 : RowAt w2 (pb + 2) 34 #[.int .i64 G, .slice A2 i c2] := (HG2.out.block (pb + 2) (by simp; omega) (fun e => by have := (HNE.out (pb + 2) e.symm).1; omega)).trans ((Below.heap_alloc _ _ (pb + 2) ql).trans HQ.out)
          exact h1.set_ 1 _
        have hown3 : (w2.setCell ⟨pb + 2, 1, none⟩ (.slice A3 (i + 1) c3)).ownsRow (pb + 3) 57 4 (.slice A3 (i + 1) c3) (i + 1) (icells (L.take (i + 1))) := by
          rw [HTK.out]
          exact owns_keep HO2.out fun b hb => Below.heap_setCell _ _ _ b (by have := (World.ownsRow.lt HO2.out b hb).1; show b ≠ pb + 2; omega)
        have hbel : Below (pb + 2) wb (w2.setCell ⟨pb + 2, 1, none⟩ (.slice A3 (i + 1) c3)) := by
          refine Below.setCell ?_ (by show pb + 2 ≤ pb + 2; omega) _
          refine (HB.out.alloc (by omega) (.cells #[.int .i64 xop, .int .i64 xx, .int .i64 xy, .string ⟨xp.toArray⟩] 57)).trans ⟨HG2.out.os, HG2.out.tape, HG2.out.output, HG2.out.size, fun b hb => HG2.out.block b (by simp; omega) (fun e => by have := (HNE.out b e.symm).1; omega)⟩
        have HBL := Lib.hid hbel
        have HEX : Hid (∃ A2 c2, RowAt (w2.setCell ⟨pb + 2, 1, none⟩ (.slice A3 (i + 1) c3)) (pb + 2) 34 #[.int .i64 G, .slice A2 (i + 1) c2] ∧ (w2.setCell ⟨pb + 2, 1, none⟩ (.slice A3 (i + 1) c3)).ownsRow (pb + 3) 57 4 (.slice A2 (i + 1) c2) (i + 1) (icells (L.take (i + 1)))) := Lib.hid ⟨A3, c3, hrow2, hown3⟩
        clear hrow2 hown3 hbel d0' df' HO2 HG2
        try go_wp2_with fail
        go_roundw
        case rel => exact ⟨i + 1, by go_num, by omega, Lib.hid HBL.out, Lib.hid HEX.out⟩
        case measure => simp [intOf]; omega
    · have hltI : ¬ (i : Int) < (L.length : Int) := by omega
      obtain rfl : i = L.length := by omega
      have r0 : wr.cell? ⟨pb + 1, 0, none⟩ = some (.int .i64 0) := (HB.out.cell (p := ⟨pb + 1, 0, none⟩) (by show pb + 1 < pb + 2; omega)).trans ((HW1.out.cell 0).trans rfl)
      have r1 : wr.cell? ⟨pb + 1, 1, none⟩ = some (.slice none 0 0) := (HB.out.cell (p := ⟨pb + 1, 1, none⟩) (by show pb + 1 < pb + 2; omega)).trans ((HW1.out.cell 1).trans rfl)
      have rf0 : wr.frozen? ⟨pb + 1, 0, none⟩ = false := (HB.out.frozen (p := ⟨pb + 1, 0, none⟩) (by show pb + 1 < pb + 2; omega)).trans (HW1.out.frozen 0)
      have rf1 : wr.frozen? ⟨pb + 1, 1, none⟩ = false := (HB.out.frozen (p := ⟨pb + 1, 1, none⟩) (by show pb + 1 < pb + 2; omega)).trans (HW1.out.frozen 1)
      have rl : pb + 1 < wr.heap.size := by omega
      clear hq ho
      go_wp2_with fail
      refine bodyPost_ret ((Pk.results_cell1 rfl _ _ _).trans (by simp [go_sem, *]; rfl)) rfl ?_
      have hO := HO.out
      rw [List.take_length] at hO
      refine ⟨A2, ⟨c2, rfl⟩, ?_, ?_⟩
      · refine HB0.out.trans (Below.trans (b := wr) (HB.out.mono (by have := HPB.out; omega)) ?_)
        exact ((Below.refl _ _).setCell (by have := HPB.out; show W.heap.size ≤ pb + 1; omega) _).setCell (by have := HPB.out; show W.heap.size ≤ pb + 1; omega) _
      · refine (Rd.own hO).keep (by simp [World.setCell]) (fun g _ hg => ?_) |>.mono fun g _ hg => ?_
        · have h2 := (World.ownsRow.lt hO g hg).1
          rw [Below.heap_setCell _ _ _ g (by show g ≠ pb + 1; omega), Below.heap_setCell _ _ _ g (by show g ≠ pb + 1; omega)]
        · have h2 := (World.ownsRow.lt hO g hg).1
          have := HPB.out
          show W.heap.size ≤ g
          omega
end Go.Proofs.Ytelbabgkpflckaa

namespace Go.Proofs.Ytelbabgkpflckaa
open Go.RowKit
open Me

namespace Rx
/-- A set as cells. -/
def cel (s : St) : Array Value := ((List.range 256).map fun i => Value.bool (s i)).toArray
theorem cel_size (s : St) : (cel s).size = 256 := by unfold cel; simp
theorem cel_at (s : St) (i : Nat) (h : i < 256) : (cel s)[i]? = some (.bool (s i)) := by
  unfold cel
  rw [List.getElem?_toArray, List.getElem?_map, List.getElem?_range h]
  rfl
theorem cel_ext {s t : St} (h : ∀ i, i < 256 → s i = t i) : cel s = cel t := by
  unfold cel
  congr 1
  apply List.map_congr_left
  intro i hi
  rw [h i (List.mem_range.1 hi)]
theorem cel_inj {s t : St} (h : cel s = cel t) : ∀ i, i < 256 → s i = t i := fun i hi => by
  have h1 := cel_at s i hi
  rw [h, cel_at t i hi] at h1
  simpa using h1.symm
theorem cel_set (s : St) (i : Nat) (b : Bool) : (cel s).setIfInBounds i (.bool b) = cel (fun j => if j = i then b else s j) := by
  apply Array.ext_getElem?
  intro j
  rw [Array.getElem?_setIfInBounds]
  by_cases hj : j < 256
  · rw [cel_at _ j hj, cel_at _ j hj, cel_size]
    by_cases e : i = j
    · subst e; simp [hj]
    · rw [if_neg e, if_neg (fun h => e h.symm)]
  · have h1 : (cel s)[j]? = none := Array.getElem?_eq_none (by rw [cel_size]; omega)
    have h2 : (cel fun j => if j = i then b else s j)[j]? = none := Array.getElem?_eq_none (by rw [cel_size]; omega)
    rw [h1, h2, cel_size]
    by_cases e : i = j
    · subst e; simp [hj]
    · rw [if_neg e]
theorem cel_one (s : St) : (cel s).all (·.oneCell') = true := by
  rw [Array.all_eq_true_iff_forall_mem]
  intro v hv
  unfold cel at hv
  simp at hv
  obtain ⟨i, _, rfl⟩ := hv
  rfl
/-- What a walk over a set leaves: its cells, and all else as it was. -/
def Turned (w : World) (b : Nat) (t : TypeId) (s : St) (e : Ending) (w' : World) : Prop := e = .returned (.tuple #[]) ∧ RowAt w' b t (cel s) ∧ Kp (fun i => i = b) w w'
end Rx

namespace Rx
theorem pairsTo_step (s : St) (k : Nat) : pairsTo s (k + 1) = pairsTo s k ++ pairAt s k := rfl
theorem pairAt_len (s : St) (k : Nat) : (pairAt s k).length ≤ 2 := by
  unfold pairAt
  split
  · split <;> split <;> simp
  · simp
theorem pairsTo_len (s : St) (k : Nat) : (pairsTo s k).length ≤ 2 * k := by
  induction k with
  | zero => exact Nat.zero_le _
  | succ k ih => rw [pairsTo_step, List.length_append]; have := pairAt_len s k; omega
end Rx
end Go.Proofs.Ytelbabgkpflckaa

namespace Go.Proofs.Ytelbabgkpflckaa
namespace Rx
theorem takeByte_len {s r : List UInt8} {c : UInt8} (h : takeByte s = some (c, r)) : r.length < s.length := by
  cases s with
  | nil => cases h
  | cons b t =>
    simp only [takeByte] at h
    by_cases hb : b = 92
    · rw [if_pos hb] at h
      cases t with
      | nil => cases h
      | cons c2 t2 =>
        simp only at h
        split at h
        · cases h
        · cases h; simp; omega
    · rw [if_neg hb] at h
      cases h; simp
theorem items_len : ∀ (n : Nat) {aft fst : Bool} {s r : List UInt8} {f g : St}, items n aft fst s f = some (g, r) → r.length < s.length
  | 0, _, _, _, _, _, _, h => by cases h
  | n + 1, aft, fst, s, r, f, g, h => by
    rw [items] at h
    split at h
    · rename_i h1
      cases s with
      | nil => simp [starts] at h1
      | cons b t => cases h; simp
    · split at h
      · rename_i c hc
        have := items_len n h
        rw [List.length_drop] at this
        omega
      · split at h
        · cases h
        · rename_i lo t ht
          have h1 := takeByte_len ht
          split at h
          · split at h
            · cases h
            · rename_i hi t2 ht2
              have h2 := takeByte_len ht2
              rw [List.length_drop] at h2
              split at h
              · cases h
              · have := items_len n h
                omega
          · have := items_len n h
            omega
theorem bracket_len {s r : List UInt8} {g : St} (h : bracket s = some (g, r)) : r.length < s.length := by
  unfold bracket at h
  split at h
  · obtain ⟨⟨g1, r1⟩, h1, h2⟩ := Option.map_eq_some_iff.1 h
    cases h2
    have := items_len _ h1
    rw [List.length_drop] at this
    show r1.length < _
    omega
  · exact items_len _ h
theorem set_len {s r : List UInt8} {g : St} (h : set s = some (g, r)) : r.length < s.length := by
  cases s with
  | nil => cases h
  | cons b t =>
    rw [set] at h
    split at h
    · cases h; simp
    · split at h
      · have := bracket_len h; simp; omega
      · split at h
        · cases h; simp; omega
        · split at h
          · cases h
          · obtain ⟨⟨g1, r1⟩, h1, h2⟩ := Option.map_eq_some_iff.1 h
            cases h2
            exact takeByte_len h1
/-- What an expression's reader owes. -/
def Short (E : List UInt8 → Nat → Nat → Res) : Prop := ∀ s g d c r g2, E s g d = .ok (c, r, g2) → c.length + 2 * r.length ≤ 2 * s.length ∧ g2 + r.length ≤ g + s.length
theorem starts_drop {c : UInt8} {r : List UInt8} (h : starts c r = true) : (r.drop 1).length + 1 = r.length := by
  cases r with
  | nil => simp [starts] at h
  | cons b t => simp
theorem saved_len (k : Nat) (c : List In) : (saved k c).length = c.length + 2 := by simp [saved]
theorem groupE_len {E : List UInt8 → Nat → Nat → Res} (hE : Short E) {s r : List UInt8} {g d g2 : Nat} {c : List In} (h : groupE E s g d = .ok (c, r, g2)) : c.length + 2 * r.length ≤ 2 * s.length ∧ g2 + r.length ≤ g + s.length := by
  unfold groupE at h
  split at h
  · cases h
  · split at h
    · split at h
      · cases h
      · rename_i c1 r1 g1 he
        obtain ⟨h1, h2⟩ := hE _ _ _ _ _ _ he
        rw [List.length_drop] at h1 h2
        split at h
        · rename_i hs
          have := starts_drop hs
          cases h
          exact ⟨by omega, by omega⟩
        · cases h
    · split at h
      · cases h
      · rename_i c1 r1 g1 he
        obtain ⟨h1, h2⟩ := hE _ _ _ _ _ _ he
        split at h
        · rename_i hs
          have := starts_drop hs
          cases h
          rw [saved_len]
          exact ⟨by omega, by omega⟩
        · cases h
theorem atomE_len {E : List UInt8 → Nat → Nat → Res} (hE : Short E) {s r : List UInt8} {g d g2 : Nat} {c : List In} (h : atomE E s g d = .ok (c, r, g2)) : c.length + 2 * r.length ≤ 2 * s.length ∧ g2 + r.length ≤ g + s.length ∧ r.length < s.length := by
  cases s with
  | nil => cases h
  | cons b t =>
    rw [atomE] at h
    split at h
    · have := groupE_len hE h
      simp
      exact ⟨by omega, by omega, by omega⟩
    · split at h
      · cases h; simp; omega
      · split at h
        · cases h; simp; omega
        · split at h
          · cases h
          · rename_i f r2 hf
            have := set_len hf
            cases h
            simp at *
            omega
theorem rep_len (x : List In) (s : List UInt8) : (rep x s).1.length + 2 * (rep x s).2.length ≤ x.length + 2 * s.length ∧ (rep x s).2.length ≤ s.length := by
  cases s with
  | nil => simp [rep]
  | cons c r =>
    have hl : ∀ z, (repeated x c z).length ≤ x.length + 2 := by
      intro z
      unfold repeated
      split
      · simp
      · split <;> simp
    rw [rep]
    split
    · split
      · have := hl true
        simp; omega
      · have := hl false
        simp; omega
    · simp
theorem pieceE_len {E : List UInt8 → Nat → Nat → Res} (hE : Short E) {s r : List UInt8} {g d g2 : Nat} {c : List In} (h : pieceE E s g d = .ok (c, r, g2)) : c.length + 2 * r.length ≤ 2 * s.length ∧ g2 + r.length ≤ g + s.length ∧ r.length < s.length := by
  unfold pieceE at h
  split at h
  · cases h
  · rename_i x r1 g1 ha
    obtain ⟨h1, h2, h3⟩ := atomE_len hE ha
    have := rep_len x r1
    cases h
    exact ⟨by omega, by omega, by omega⟩
theorem branchE_len {E : List UInt8 → Nat → Nat → Res} (hE : Short E) : ∀ (n : Nat) {acc : List In} {s r : List UInt8} {g d g2 : Nat} {c : List In}, branchE E n acc s g d = .ok (c, r, g2) → c.length + 2 * r.length ≤ acc.length + 2 * s.length ∧ g2 + r.length ≤ g + s.length
  | 0, _, _, _, _, _, _, _, h => by cases h
  | n + 1, acc, s, r, g, d, g2, c, h => by
    rw [branchE] at h
    split at h
    · cases h; exact ⟨Nat.le_refl _, Nat.le_refl _⟩
    · split at h
      · cases h
      · rename_i x r1 g1 hp
        obtain ⟨h1, h2, h3⟩ := pieceE_len hE hp
        obtain ⟨h4, h5⟩ := branchE_len hE n h
        rw [List.length_append] at h4
        exact ⟨by omega, by omega⟩
/-- All branches but the last, with a Split and a Jump each. -/
def tot (bs : List (List In)) : Nat := (bs.map fun b => b.length + 2).sum
theorem tot_snoc (bs : List (List In)) (b : List In) : tot (bs ++ [b]) = tot bs + (b.length + 2) := by simp [tot]
theorem choice_len : ∀ (bs : List (List In)) (b : List In), (choice (bs ++ [b])).length = tot bs + b.length
  | [], b => by simp [choice, tot]
  | [a], b => by simp [choice, tot]; omega
  | a :: c :: r, b => by
    have h := choice_len (c :: r) b
    have e : choice (a :: c :: r ++ [b]) = ⟨2, 1, ((a.length + 2 : Nat) : Int), []⟩ :: (a ++ ⟨3, (((choice (c :: r ++ [b])).length + 1 : Nat) : Int), 0, []⟩ :: choice (c :: r ++ [b])) := rfl
    rw [e, List.length_cons, List.length_append, List.length_cons, h]
    simp [tot]; omega
theorem waysE_len {E : List UInt8 → Nat → Nat → Res} (hE : Short E) : ∀ (n : Nat) {bs : List (List In)} {s r : List UInt8} {g d g2 : Nat} {c : List In}, waysE E n bs s g d = .ok (c, r, g2) → c.length + 2 * r.length ≤ tot bs + 2 * s.length ∧ g2 + r.length ≤ g + s.length
  | 0, _, _, _, _, _, _, _, h => by cases h
  | n + 1, bs, s, r, g, d, g2, c, h => by
    rw [waysE] at h
    split at h
    · cases h
    · rename_i b r1 g1 hb
      obtain ⟨h1, h2⟩ := branchE_len hE _ hb
      simp at h1
      split at h
      · rename_i hs
        have := starts_drop hs
        obtain ⟨h4, h5⟩ := waysE_len hE n h
        rw [tot_snoc] at h4
        exact ⟨by omega, by omega⟩
      · cases h
        rw [choice_len]
        exact ⟨by omega, by omega⟩
theorem expr_len : ∀ n, Short (expr n)
  | 0 => fun _ _ _ _ _ _ h => by cases h
  | n + 1 => fun s g d c r g2 h => by
    have := waysE_len (expr_len n) _ h
    simpa [tot] using this
end Rx
end Go.Proofs.Ytelbabgkpflckaa

namespace Go.Proofs.Ytelbabgkpflckaa
open Go.RowKit
open Me

theorem byteinfo : (Try.prog.info? 5).map (fun i => (i.zero, i.size, i.bytes)) = some (some (.int .u8 0), 1, 1) := by kernel_rfl

namespace Rx
theorem of_nat (k : Nat) (h : k < 256) : ((UInt8.ofNat k).toNat : Int) = k := by rw [UInt8.toNat_ofNat', Nat.mod_eq_of_lt (by omega)]
theorem pairAt_is {s : St} {k : Nat} (hs : s k = true) (p q : Bool) (hp : (k = 0 ∨ s (k - 1) = false) ↔ p = true) (hq : (k = 255 ∨ s (k + 1) = false) ↔ q = true) : pairAt s k = (if p then [UInt8.ofNat k] else []) ++ (if q then [UInt8.ofNat k] else []) := by
  unfold pairAt
  rw [if_pos hs]
  congr 1
  · by_cases h : k = 0 ∨ s (k - 1) = false
    · rw [if_pos h, hp.1 h]; rfl
    · rw [if_neg h, if_neg (fun e => h (hp.2 e))]
  · by_cases h : k = 255 ∨ s (k + 1) = false
    · rw [if_pos h, hq.1 h]; rfl
    · rw [if_neg h, if_neg (fun e => h (hq.2 e))]
theorem own_push {base : Nat} {w : World} {v : Value} {L : List UInt8} {k : Nat} (hk : k < 256) (h : w.ownsRow base 5 1 v (L.length + 1) (by8 L ++ [.int .u8 (k : Int)])) : OwnB base w v (L ++ [UInt8.ofNat k]) := by
  refine own_more (m := 1) rfl ?_
  rw [show by8 [UInt8.ofNat k] = [.int .u8 (k : Int)] by unfold by8; rw [List.map_cons, List.map_nil, of_nat k hk]]
  exact h
end Rx

end Go.Proofs.Ytelbabgkpflckaa
