/-
  SbOf: CHAPTER 13, LAWS: the document's program of an expression, as both sides have it (of). (Written by mksbof.py out of XPkOf.)
  PkStar: CHAPTER 12, PLAIN: what is found for a byte any number of times, and for a text of letters.
-/
import Derived.Test.YtelbabgkpflckaaJ19
import Derived.RegionTactic
import Derived.Deep.RegionLaw
import Derived.Test.YtelbabgkpflckaaJ27

set_option linter.unusedSimpArgs false
set_option linter.unusedVariables false
namespace Go.Proofs.Ytelbabgkpflckaa
open Go.RowKit Go.Sort
open Me
open Pk

theorem results_cct {fn : Func} {p q r : Tmp} {ty ty2 : TypeId} (h : fn.results = #[.cell p ty, .cell q ty2, .tmp r]) (tmps : Array Value) (P : Program) (w : World) :
    (results fn tmps).run P w =
      ((asAddr (tmps.getD p undef)).run P w).andThen fun a w₁ => ((loadVar ty a).run P w₁).andThen fun v w₂ => ((asAddr (tmps.getD q undef)).run P w₂).andThen fun b w₃ => ((loadVar ty2 b).run P w₃).andThen fun u w₄ => .ok (.tuple #[v, u, tmps.getD r undef]) w₄ := by
  simp only [results, h]
  simp [Sem.run_bind, Result.andThen]

namespace Rc
open Rx (In)
def Of3R (s : List UInt8) (W : World) (e : Ending) (W' : World) : Prop := ∃ (g : Nat) (L : List In) (A : Option Addr) (c : Nat) (A1 : Option Addr) (c1 : Nat) (ok : Bool), e = .returned (.tuple #[.agg #[.int .i64 (g : Int), .slice A L.length c], .agg #[.int .i64 (g : Int), .slice A1 L.length c1], .bool ok]) ∧ Below W.heap.size W W' ∧ Rd W' (fun i => W.heap.size ≤ i) A (icells L) ∧ Rd W' (fun i => W.heap.size ≤ i) A1 (icells L) ∧ Fine g L ∧ (Sm s → ofP s = (g, L, ok))
end Rc

set_option maxRecDepth 100000 in
set_option maxHeartbeats 8000000 in
theorem of3_any {S : List UInt8 → Prop} (hSC : Rc.SetC S) {W : World} {s : List UInt8} (hS : S s) (hl : s.length ≤ 4096) :
    Calls Try.prog 20 #[.string ⟨s.toArray⟩] W (Rc.Of3R s W) := by
  obtain ⟨i0, hi0, hz0, hz1, hz2⟩ := info_parts Rc.rinst_info
  have HI := Lib.hid hi0
  have HZ := Lib.hid (And.intro hz0 (And.intro hz1 hz2))
  clear hi0 hz0 hz1 hz2
  obtain ⟨rb, hrb⟩ : ∃ rb, rb = W.heap.size := ⟨_, rfl⟩
  obtain ⟨W0, hW0⟩ : ∃ W0, W0 = (W.alloc (.cells #[.int .i64 0, .slice none 0 0] 24)).alloc (.cells #[.int .i64 0, .slice none 0 0] 34) := ⟨_, rfl⟩
  have HB0 : Hid (Below W.heap.size W W0) := Lib.hid (by rw [hW0]; exact ((Below.refl _ _).alloc (Nat.le_refl _) _).alloc (by simp) _)
  have HRR : Hid (RowAt W0 rb 24 #[.int .i64 0, .slice none 0 0]) := Lib.hid (by rw [hW0, hrb]; exact (RowAt.new W _ _).alloc _)
  have HRR2 : Hid (RowAt W0 (rb + 1) 34 #[.int .i64 0, .slice none 0 0]) := Lib.hid (by rw [hW0, hrb]; exact RowAt.new' (by simp))
  have HC := Lib.hid ((refCompile_any hSC (W := W0) hS hl).mono fun e W' h => Rc.ComR.uni h)
  have HRB := Lib.hid hrb
  have hs0 : W0.heap.size = rb + 2 := by rw [hW0, hrb]; simp
  clear hSC hS hl
  go_enter Try.func20, Try.ntmps20
  go_wp2_with fail
  rw [← hW0, ← hrb]
  clear hW0 hrb
  go_at_call 23
  refine HC.out.mono ?_
  rintro e w1 ⟨g, L, A, c, er, rfl, hb1, hr1, hf1, hq1⟩
  obtain ⟨q, hq⟩ : ∃ q, q = w1.heap.size := ⟨_, rfl⟩
  have hqb : rb + 1 < q := by have := hb1.size; omega
  have HF := Lib.hid hf1
  have HQ := Lib.hid hq1
  have hL : L.length ≤ 1024 := hf1.len
  have HRW : Hid (RowAt w1 rb 24 #[.int .i64 0, .slice none 0 0]) := Lib.hid (HRR.out.below hb1 (by omega))
  have HRW2 : Hid (RowAt w1 (rb + 1) 34 #[.int .i64 0, .slice none 0 0]) := Lib.hid (HRR2.out.below hb1 (by omega))
  have HB1 : Hid (Below W.heap.size W w1) := Lib.hid (HB0.out.trans (hb1.mono HB0.out.size))
  obtain ⟨wb, hwb⟩ : ∃ wb, wb = (w1.alloc (.cells #[.int .i64 (g : Int), .slice A L.length c] 34)).alloc (.cells #[.int .i64 (g : Int), .slice none 0 0] 24) := ⟨_, rfl⟩
  have HP : Hid (Rd wb (fun i => W0.heap.size ≤ i ∧ i < q) A (icells L)) := Lib.hid fun hn => by
    obtain ⟨ad, e, h1, h2, h3⟩ := hr1 hn
    rw [hwb]
    refine ⟨ad, e, by simp; omega, ⟨h2, by omega⟩, fun j u hu => ?_⟩
    exact (World.cell?_of_block (by rw [Me.block_add]; exact (Below.heap_alloc _ _ _ (by simp; omega)).trans (Below.heap_alloc _ _ _ h1))).trans (h3 j u hu)
  have HW1 : Hid (RowAt wb q 34 #[.int .i64 (g : Int), .slice A L.length c]) := Lib.hid (by rw [hwb, hq]; exact (RowAt.new w1 _ _).alloc _)
  have HW2 : Hid (RowAt wb (q + 1) 24 #[.int .i64 (g : Int), .slice none 0 0]) := Lib.hid (by rw [hwb, hq]; exact RowAt.new' (by simp))
  have HRX : Hid (RowAt wb rb 24 #[.int .i64 0, .slice none 0 0]) := Lib.hid (by rw [hwb]; exact (HRW.out.alloc _).alloc _)
  have HRX2 : Hid (RowAt wb (rb + 1) 34 #[.int .i64 0, .slice none 0 0]) := Lib.hid (by rw [hwb]; exact (HRW2.out.alloc _).alloc _)
  have HBW : Hid (Below W.heap.size W wb) := Lib.hid (by rw [hwb]; exact (HB1.out.alloc (by have := HB1.out.size; omega) _).alloc (by have := HB1.out.size; simp; omega) _)
  have hws : wb.heap.size = q + 2 := by rw [hwb, hq]; simp
  have HWS := Lib.hid hws
  clear hb1 hr1 hf1 hq1
  go_wp2_with fail
  rw [← hwb, ← hq]
  clear hwb hq
  go_loopw [8] (fun x wr => ∃ i : Nat, x = .int .i64 (i : Int) ∧ i ≤ L.length ∧ Hid (Below (q + 1) wb wr) ∧ Hid (∃ A2 c2, RowAt wr (q + 1) 24 #[.int .i64 (g : Int), .slice A2 i c2] ∧ wr.ownsRow (q + 2) 56 4 (.slice A2 i c2) i (icells (L.take i)))) (fun x _ => L.length - (intOf x).toNat)
  case atStart => exact ⟨0, rfl, Nat.zero_le _, Lib.hid (Below.refl _ _), Lib.hid ⟨none, 0, HW2.out, by simp [icells], .inl ⟨rfl, rfl⟩⟩⟩
  case round =>
    obtain ⟨i, rfl, hi, HB, H1⟩ := hrel
    obtain ⟨A2, c2, hq, ho⟩ := H1.out
    clear H1
    have hw2 := HW2.out.lt
    have hsr := HB.out.size
    have e1 : wr.cell? ⟨q, 1, none⟩ = some (.slice A L.length c) := (HB.out.cell (p := ⟨q, 1, none⟩) (by show q < q + 1; omega)).trans ((HW1.out.cell 1).trans rfl)
    have q1 : wr.cell? ⟨q + 1, 1, none⟩ = some (.slice A2 i c2) := (hq.cell 1).trans rfl
    have q0 : wr.cell? ⟨q + 1, 0, none⟩ = some (.int .i64 (g : Int)) := (hq.cell 0).trans rfl
    have qf := hq.frozen 1
    have ql := hq.lt
    have HQW := Lib.hid hq
    have HO := Lib.hid ho
    by_cases hlt : i < L.length
    · have hltI : (i : Int) < (L.length : Int) := by omega
      have hi0 : (0 : Int) ≤ (i : Int) := by omega
      obtain ⟨x, hx⟩ : ∃ x, L[i] = x := ⟨_, rfl⟩
      have hfx : Pk.fetch L (i : Int) = some x := by unfold Pk.fetch; rw [if_pos hi0, Int.toNat_natCast, List.getElem?_eq_getElem hlt, hx]
      have hpw : Rd wr (fun j => j < q) A (icells L) := (HP.out.mono fun i _ hi => hi.2).keep HB.out.size fun j _ hj => HB.out.block j (by have hj : j < q := hj; omega)
      obtain ⟨ib, io, hA, hil, j0, j1, j2, j3, hib⟩ := Pk.prog_cells2 hpw hfx
      have hib : ib < q := hib
      have hibq : ¬ q + 1 = ib := by omega
      rw [Int.toNat_natCast] at j0 j1 j2 j3
      clear hpw
      subst hA
      obtain ⟨xop, xx, xy, xp⟩ := x
      have hlen : i + 1 ≤ maxLen := by unfold maxLen; omega
      have HOA : Hid ((wr.alloc (.cells #[.int .i64 xop, .int .i64 xx, .int .i64 xy, .string ⟨xp.toArray⟩] 56)).ownsRow (q + 2) 56 4 (.slice A2 i c2) i (icells (L.take i))) := Lib.hid (ho.alloc _)
      have HRD : Hid (Rd (wr.alloc (.cells #[.int .i64 xop, .int .i64 xx, .int .i64 xy, .string ⟨xp.toArray⟩] 56)) (fun b => b = wr.heap.size) (some ⟨wr.heap.size, 0, none⟩) [.int .i64 xop, .int .i64 xx, .int .i64 xy, .string ⟨xp.toArray⟩]) := Lib.hid (Rd.fresh wr [.int .i64 xop, .int .i64 xx, .int .i64 xy, .string ⟨xp.toArray⟩] 56 _ rfl)
      have HNE : Hid (∀ b, (Value.slice A2 i c2).ownBlock = some b → q + 2 ≤ b ∧ b < wr.heap.size) := Lib.hid fun b hb => World.ownsRow.lt ho b hb
      have HTK : Hid (icells (L.take (i + 1)) = icells (L.take i) ++ [.int .i64 xop, .int .i64 xx, .int .i64 xy, .string ⟨xp.toArray⟩]) := Lib.hid (by
        rw [List.take_add_one, List.getElem?_eq_getElem hlt, hx]
        unfold icells
        rw [List.flatMap_append]
        rfl)
      clear hq ho hx hfx
      go_wp2_with fail
      go_region_law (refine step_app _ rfl (.tmp 25) (.tmp 31) 22 rfl (q + 2) 56 i0 _ 4 40 Try.underlying22 HI.out HZ.out.1 HZ.out.2.1 HZ.out.2.2 rfl (by decide) (.slice A2 i c2) i (icells (L.take i)) (by simp [Act.eval]) HOA.out (fun b => b = wr.heap.size) (some ⟨wr.heap.size, 0, none⟩) 1 1 [.int .i64 xop, .int .i64 xx, .int .i64 xy, .string ⟨xp.toArray⟩] (by simp [Act.eval]) (by simp) HRD.out (by intro u hu; simp at hu; rcases hu with rfl | rfl | rfl | rfl <;> rfl) hlen (by omega) (by simp; omega) ?_; intro v2 w2 hown2 hg2 hat2 hnil2; have d0' : w2.cell? ⟨q + 1, 1, none⟩ = some (.slice A2 i c2) := (hg2.cell_far ⟨q + 1, 1, none⟩ (by show q + 1 < _; simp; omega) (fun e => by have := (HNE.out (q + 1) e.symm).1; omega)).trans ((World.cell?_alloc_lt _ _ _ ql).trans q1); have df' : w2.frozen? ⟨q + 1, 1, none⟩ = false := (hg2.frozen_far ⟨q + 1, 1, none⟩ (by show q + 1 < _; simp; omega) (fun e => by have := (HNE.out (q + 1) e.symm).1; omega)).trans ((World.frozen?_of_block (Below.heap_alloc _ _ (q + 1) ql)).trans qf); have HO2 := Lib.hid hown2; have HG2 : Hid (World.grownBy (wr.alloc (.cells #[.int .i64 xop, .int .i64 xx, .int .i64 xy, .string ⟨xp.toArray⟩] 56)) w2 (Value.slice A2 i c2).ownBlock) := Lib.hid ⟨hg2.os, hg2.tape, hg2.output, hg2.size, hg2.block⟩; obtain ⟨A3, c3, rfl⟩ := own_form hown2; clear hown2 hg2 hat2 hnil2)
      all_goals
        try go_simp
        have hrow2 : RowAt (w2.setCell ⟨q + 1, 1, none⟩ (.slice A3 (i + 1) c3)) (q + 1) 24 #[.int .i64 (g : Int), .slice A3 (i + 1) c3] := by
          have h1 : RowAt w2 (q + 1) 24 #[.int .i64 (g : Int), .slice A2 i c2] := (HG2.out.block (q + 1) (by simp; omega) (fun e => by have := (HNE.out (q + 1) e.symm).1; omega)).trans ((Below.heap_alloc _ _ (q + 1) ql).trans HQW.out)
          exact h1.set_ 1 _
        have hown3 : (w2.setCell ⟨q + 1, 1, none⟩ (.slice A3 (i + 1) c3)).ownsRow (q + 2) 56 4 (.slice A3 (i + 1) c3) (i + 1) (icells (L.take (i + 1))) := by
          rw [HTK.out]
          exact owns_keep HO2.out fun b hb => Below.heap_setCell _ _ _ b (by have := (World.ownsRow.lt HO2.out b hb).1; show b ≠ q + 1; omega)
        have hbel : Below (q + 1) wb (w2.setCell ⟨q + 1, 1, none⟩ (.slice A3 (i + 1) c3)) := by
          refine Below.setCell ?_ (by show q + 1 ≤ q + 1; omega) _
          refine (HB.out.alloc (by omega) (.cells #[.int .i64 xop, .int .i64 xx, .int .i64 xy, .string ⟨xp.toArray⟩] 56)).trans ⟨HG2.out.os, HG2.out.tape, HG2.out.output, HG2.out.size, fun b hb => HG2.out.block b (by simp; omega) (fun e => by have := (HNE.out b e.symm).1; omega)⟩
        have HBL := Lib.hid hbel
        have HEX : Hid (∃ A2 c2, RowAt (w2.setCell ⟨q + 1, 1, none⟩ (.slice A3 (i + 1) c3)) (q + 1) 24 #[.int .i64 (g : Int), .slice A2 (i + 1) c2] ∧ (w2.setCell ⟨q + 1, 1, none⟩ (.slice A3 (i + 1) c3)).ownsRow (q + 2) 56 4 (.slice A2 (i + 1) c2) (i + 1) (icells (L.take (i + 1)))) := Lib.hid ⟨A3, c3, hrow2, hown3⟩
        clear hrow2 hown3 hbel d0' df' HO2 HG2
        try go_wp2_with fail
        go_roundw
        case rel => exact ⟨i + 1, by go_num, by omega, Lib.hid HBL.out, Lib.hid HEX.out⟩
        case measure => simp [intOf]; omega
    · have hltI : ¬ (i : Int) < (L.length : Int) := by omega
      obtain rfl : i = L.length := by omega
      have hrr : RowAt wr rb 24 #[.int .i64 0, .slice none 0 0] := HRX.out.below HB.out (by omega)
      have hrr2 : RowAt wr (rb + 1) 34 #[.int .i64 0, .slice none 0 0] := HRX2.out.below HB.out (by omega)
      have hp1 : Rd wr (fun j => W0.heap.size ≤ j ∧ j < q) A (icells L) := HP.out.keep HB.out.size fun j _ hj => HB.out.block j (by have := hj.2; omega)
      have r0 : wr.cell? ⟨rb, 0, none⟩ = some (.int .i64 0) := (hrr.cell 0).trans rfl
      have r1 : wr.cell? ⟨rb, 1, none⟩ = some (.slice none 0 0) := (hrr.cell 1).trans rfl
      have s0 : wr.cell? ⟨rb + 1, 0, none⟩ = some (.int .i64 0) := (hrr2.cell 0).trans rfl
      have s1 : wr.cell? ⟨rb + 1, 1, none⟩ = some (.slice none 0 0) := (hrr2.cell 1).trans rfl
      have p0 : wr.cell? ⟨q, 0, none⟩ = some (.int .i64 (g : Int)) := (HB.out.cell (p := ⟨q, 0, none⟩) (by show q < q + 1; omega)).trans ((HW1.out.cell 0).trans rfl)
      have rf0 := hrr.frozen 0
      have rf1 := hrr.frozen 1
      have sf0 := hrr2.frozen 0
      have sf1 := hrr2.frozen 1
      have rl := hrr.lt
      have sl := hrr2.lt
      obtain ⟨ok, hok⟩ : ∃ ok, ok = (er == 0) := ⟨_, rfl⟩
      have HOK : Hid (ok = decide (er = 0)) := Lib.hid (by rw [hok]; rfl)
      have hok2 : (er == 0) = ok := hok.symm
      have HP1 := Lib.hid hp1
      have hO := HO.out
      rw [List.take_length] at hO
      have HO2 := Lib.hid hO
      have hne1 : ¬ rb + 1 = rb := by omega
      have hne2 : ¬ rb = rb + 1 := by omega
      have HEND : Hid (∀ wz : World, Below rb wr wz → (∀ j, rb + 2 ≤ j → wz.heap[j]? = wr.heap[j]?) → Rc.Of3R s W (.returned (.tuple #[.agg #[.int .i64 (g : Int), .slice A2 L.length c2], .agg #[.int .i64 (g : Int), .slice A L.length c], .bool ok])) wz) := Lib.hid fun wz hz hj => by
        refine ⟨g, L, A2, c2, A, c, ok, rfl, ?_, ?_, ?_, HF.out, fun hs => by rw [HQ.out hs, HOK.out]⟩
        · exact HBW.out.trans (Below.trans (b := wr) (HB.out.mono (by have := HRB.out; omega)) (hz.mono (by have := HRB.out; omega)))
        · refine (Rd.own HO2.out).keep hz.size (fun j _ hj9 => hj j (by have := (World.ownsRow.lt HO2.out j hj9).1; omega)) |>.mono fun j _ hj9 => ?_
          have := (World.ownsRow.lt HO2.out j hj9).1
          have := HRB.out
          show W.heap.size ≤ j
          omega
        · refine HP1.out.keep hz.size (fun j _ hj9 => hj j (by have := hj9.1; omega)) |>.mono fun j _ hj9 => ?_
          have := hj9.1
          have := HRB.out
          show W.heap.size ≤ j
          omega
      clear hq ho hok hrr hrr2 hp1 hO
      go_wp2_with fail
      go_region
      all_goals
        try go_simp
        try go_wp2_with fail
        (try simp only [Exit.inBlock, Exit.then])
        refine bodyPost_ret ((results_cct rfl _ _ _).trans (by simp [go_sem, *]; rfl)) rfl ?_
        refine HEND.out _ ?_ ?_
        · refine Below.drew ?_
          refine Below.setCell ?_ (by show rb ≤ rb + 1; omega) _
          refine Below.setCell ?_ (by show rb ≤ rb + 1; omega) _
          refine Below.setCell ?_ (by show rb ≤ rb; omega) _
          refine Below.setCell ?_ (by show rb ≤ rb; omega) _
          exact Below.refl _ _
        · intro j hj
          show ((((wr.setCell _ _).setCell _ _).setCell _ _).setCell _ _).heap[j]? = _
          rw [Below.heap_setCell _ _ _ j (by show j ≠ rb + 1; omega), Below.heap_setCell _ _ _ j (by show j ≠ rb + 1; omega), Below.heap_setCell _ _ _ j (by show j ≠ rb; omega), Below.heap_setCell _ _ _ j (by show j ≠ rb; omega)]
end Go.Proofs.Ytelbabgkpflckaa

namespace Go.Proofs.Ytelbabgkpflckaa
namespace Pk
open Rx (In)
section
variable {L : List In} {t : List UInt8} {S : Seen} {p k : Nat} {r : Row} {l : List Ent}
theorem dfs_go {x : In} {m : List (Int × Row)} (hf : fetch L (p : Int) = some x) (hS : S p k = false) (hk : k ≤ t.length) (ha : act t k x (p : Int) r = .go m) : dfs L t S (((p : Int), k, r) :: l) = dfs L t (see S p k) (m.map (fun e => (e.1, k, e.2)) ++ l) := by
  rw [dfs_act hf (by simpa using hS) hk, ha]
  simp
theorem dfs_dead {x : In} (hf : fetch L (p : Int) = some x) (hS : S p k = false) (hk : k ≤ t.length) (ha : act t k x (p : Int) r = .dead) : dfs L t S (((p : Int), k, r) :: l) = dfs L t (see S p k) l := by
  rw [dfs_act hf (by simpa using hS) hk, ha]
  simp
theorem dfs_next {x : In} (hf : fetch L (p : Int) = some x) (hS : S p k = false) (hk : k ≤ t.length) (ha : act t k x (p : Int) r = .next) : dfs L t S (((p : Int), k, r) :: l) = dfs L t (see S p k) ((((p + 1 : Nat) : Int), k + 1, r) :: l) := by
  rw [dfs_act hf (by simpa using hS) hk, ha]
  simp
theorem dfs_hit {x : In} (hf : fetch L (p : Int) = some x) (hS : S p k = false) (hk : k ≤ t.length) (ha : act t k x (p : Int) r = .hit) : (dfs L t S (((p : Int), k, r) :: l)).1 = some r := by
  rw [dfs_act hf (by simpa using hS) hk, ha]
end
def lead : List UInt8 → Nat
  | [] => 0
  | c :: l => if c = 97 then lead l + 1 else 0
/-- The programs of a*, a*? and (a|aa)*$. -/
def starE : List UInt8 := [97, 42]
def lazyE : List UInt8 := [97, 42, 63]
def pairE : List UInt8 := [40, 97, 124, 97, 97, 41, 42, 36]
def starL : List In := [⟨4, 0, 0, []⟩, ⟨2, 2, 4, []⟩, ⟨1, 0, 0, [97, 97]⟩, ⟨3, 1, 0, []⟩, ⟨4, 1, 0, []⟩, ⟨7, 0, 0, []⟩]
def lazyL : List In := [⟨4, 0, 0, []⟩, ⟨2, 4, 2, []⟩, ⟨1, 0, 0, [97, 97]⟩, ⟨3, 1, 0, []⟩, ⟨4, 1, 0, []⟩, ⟨7, 0, 0, []⟩]
def pairL : List In := [⟨4, 0, 0, []⟩, ⟨2, 2, 10, []⟩, ⟨4, 2, 0, []⟩, ⟨2, 4, 6, []⟩, ⟨1, 0, 0, [97, 97]⟩, ⟨3, 8, 0, []⟩, ⟨1, 0, 0, [97, 97]⟩, ⟨1, 0, 0, [97, 97]⟩, ⟨4, 3, 0, []⟩, ⟨3, 1, 0, []⟩, ⟨6, 0, 0, []⟩, ⟨4, 1, 0, []⟩, ⟨7, 0, 0, []⟩]
theorem star_of : Rc.ofP starE = (0, starL, true) := by decide +kernel
theorem lazy_of : Rc.ofP lazyE = (0, lazyL, true) := by decide +kernel
theorem pair_of : Rc.ofP pairE = (1, pairL, true) := by decide +kernel
theorem has_same (c : UInt8) : Rx.has [97, 97] c = decide (c = 97) := by
  unfold Rx.has Rx.has
  by_cases h : c = 97
  · subst h; rfl
  · have : ¬ (97 ≤ c ∧ c ≤ 97) := fun ⟨h1, h2⟩ => h (UInt8.le_antisymm h2 h1)
    simp [h]
    intro h1
    have h2 := UInt8.le_iff_toNat_le.1 h1
    have h3 : c.toNat ≠ 97 := fun e => h (UInt8.toNat_inj.1 e)
    rw [UInt8.lt_iff_toNat_lt]
    have h4 : (97 : UInt8).toNat = 97 := rfl
    omega
theorem set_hit {t : List UInt8} {k : Nat} {h : Int} {r : Row} (ht : t[k]? = some 97) : act t k ⟨1, 0, 0, [97, 97]⟩ h r = .next := by
  unfold act
  simp [ht, has_same]
theorem set_miss {t : List UInt8} {k : Nat} {h : Int} {r : Row} (ht : t[k]? ≠ some 97) : act t k ⟨1, 0, 0, [97, 97]⟩ h r = .dead := by
  unfold act
  cases hc : t[k]? with
  | none => simp
  | some c =>
    rw [hc] at ht
    have : c ≠ 97 := fun e => ht (by rw [e])
    simp [has_same, this]
theorem lead_at {t : List UInt8} {i : Nat} : lead (t.drop i) = if t[i]? = some 97 then lead (t.drop (i + 1)) + 1 else 0 := by
  by_cases hi : i < t.length
  · rw [List.drop_eq_getElem_cons hi, List.getElem?_eq_getElem hi]
    show (if t[i] = 97 then _ else _) = _
    simp
  · rw [List.drop_eq_nil_of_le (by omega), List.getElem?_eq_none (by omega)]
    simp [lead]
theorem star_from (t : List UInt8) : ∀ (d i : Nat) (S : Seen) (l : List Ent), t.length - i = d → i ≤ t.length → (∀ b, i ≤ b → S 1 b = false ∧ S 2 b = false ∧ S 4 b = false ∧ S 5 b = false) → (∀ b, i + 1 ≤ b → S 3 b = false) →
    (dfs starL t S ((((1 : Nat) : Int), i, [0, -1]) :: l)).1 = some [0, ((i + lead (t.drop i) : Nat) : Int)] := by
  intro d
  induction d with
  | zero =>
    intro i S l hd hi hS hS3
    have hil : i = t.length := by omega
    have hne : t[i]? ≠ some 97 := by rw [List.getElem?_eq_none (by omega)]; simp
    rw [dfs_go (x := ⟨2, 2, 4, []⟩) (m := [(2, [0, -1]), (4, [0, -1])]) rfl (hS i (Nat.le_refl _)).1 hi rfl]
    show (dfs starL t (see S 1 i) ((((2 : Nat) : Int), i, [0, -1]) :: (((4 : Nat) : Int), i, [0, -1]) :: l)).1 = _
    rw [dfs_dead (x := ⟨1, 0, 0, [97, 97]⟩) rfl (by simp [see, (hS i (Nat.le_refl _)).2.1]) hi (set_miss hne)]
    rw [dfs_go (x := ⟨4, 1, 0, []⟩) (m := [(5, [0, (i : Int)])]) rfl (by simp [see, (hS i (Nat.le_refl _)).2.2.1]) hi (by simp [act, put])]
    show (dfs starL t _ ((((5 : Nat) : Int), i, [0, (i : Int)]) :: l)).1 = _
    rw [dfs_hit (x := ⟨7, 0, 0, []⟩) rfl (by simp [see, (hS i (Nat.le_refl _)).2.2.2]) hi rfl, lead_at, if_neg hne]
    rfl
  | succ d ih =>
    intro i S l hd hi hS hS3
    rw [dfs_go (x := ⟨2, 2, 4, []⟩) (m := [(2, [0, -1]), (4, [0, -1])]) rfl (hS i (Nat.le_refl _)).1 hi rfl]
    show (dfs starL t (see S 1 i) ((((2 : Nat) : Int), i, [0, -1]) :: (((4 : Nat) : Int), i, [0, -1]) :: l)).1 = _
    by_cases ha : t[i]? = some 97
    · rw [dfs_next (x := ⟨1, 0, 0, [97, 97]⟩) rfl (by simp [see, (hS i (Nat.le_refl _)).2.1]) hi (set_hit ha)]
      rw [dfs_go (x := ⟨3, 1, 0, []⟩) (m := [(1, [0, -1])]) rfl (by simp [see, hS3 (i + 1) (Nat.le_refl _)]) (by omega) rfl]
      show (dfs starL t _ ((((1 : Nat) : Int), i + 1, [0, -1]) :: (((4 : Nat) : Int), i, [0, -1]) :: l)).1 = _
      rw [ih (i + 1) _ _ (by omega) (by omega) (fun b hb => ?_) (fun b hb => ?_), lead_at (i := i), if_pos ha]
      · congr 3; omega
      · have h1 := hS b (by omega)
        have : ¬ b = i := by omega
        simp [see, h1.1, h1.2.1, h1.2.2.1, h1.2.2.2, this]
      · have h1 := hS3 b (by omega)
        have : ¬ b = i + 1 := by omega
        simp [see, h1, this]
    · rw [dfs_dead (x := ⟨1, 0, 0, [97, 97]⟩) rfl (by simp [see, (hS i (Nat.le_refl _)).2.1]) hi (set_miss ha)]
      rw [dfs_go (x := ⟨4, 1, 0, []⟩) (m := [(5, [0, (i : Int)])]) rfl (by simp [see, (hS i (Nat.le_refl _)).2.2.1]) hi (by simp [act, put])]
      show (dfs starL t _ ((((5 : Nat) : Int), i, [0, (i : Int)]) :: l)).1 = _
      rw [dfs_hit (x := ⟨7, 0, 0, []⟩) rfl (by simp [see, (hS i (Nat.le_refl _)).2.2.2]) hi rfl, lead_at, if_neg ha]
      rfl
theorem star_found (t : List UInt8) : findP 0 starL t 0 = some [0, ((lead t : Nat) : Int)] := by
  unfold findP
  rw [if_neg (by omega)]
  show first starL t 2 0 (t.length + 1) = _
  unfold first walk
  show Option.or (dfs starL t nothing ((((0 : Nat) : Int), 0, [-1, -1]) :: [])).1 _ = _
  rw [dfs_go (x := ⟨4, 0, 0, []⟩) (m := [(1, [0, -1])]) rfl rfl (Nat.zero_le _) (by simp [act, put])]
  have h := star_from t t.length 0 (see nothing 0 0) [] (by omega) (Nat.zero_le _) (fun b _ => by simp [see, nothing]) (fun b _ => by simp [see, nothing])
  show Option.or (dfs starL t (see nothing 0 0) ((((1 : Nat) : Int), 0, [0, -1]) :: [])).1 _ = _
  rw [h]
  simp
theorem lazy_found (t : List UInt8) : findP 0 lazyL t 0 = some [0, 0] := by
  unfold findP
  rw [if_neg (by omega)]
  show first lazyL t 2 0 (t.length + 1) = _
  unfold first walk
  show Option.or (dfs lazyL t nothing ((((0 : Nat) : Int), 0, [-1, -1]) :: [])).1 _ = _
  rw [dfs_go (x := ⟨4, 0, 0, []⟩) (m := [(1, [0, -1])]) rfl rfl (Nat.zero_le _) (by simp [act, put])]
  show Option.or (dfs lazyL t (see nothing 0 0) ((((1 : Nat) : Int), 0, [0, -1]) :: [])).1 _ = _
  rw [dfs_go (x := ⟨2, 4, 2, []⟩) (m := [(4, [0, -1]), (2, [0, -1])]) rfl (by simp [see, nothing]) (Nat.zero_le _) rfl]
  show Option.or (dfs lazyL t _ ((((4 : Nat) : Int), 0, [0, -1]) :: (((2 : Nat) : Int), 0, [0, -1]) :: [])).1 _ = _
  rw [dfs_go (x := ⟨4, 1, 0, []⟩) (m := [(5, [0, 0])]) rfl (by simp [see, nothing]) (Nat.zero_le _) (by simp [act, put])]
  show Option.or (dfs lazyL t _ ((((5 : Nat) : Int), 0, [0, 0]) :: (((2 : Nat) : Int), 0, [0, -1]) :: [])).1 _ = _
  rw [dfs_hit (x := ⟨7, 0, 0, []⟩) rfl (by simp [see, nothing]) (Nat.zero_le _) rfl]
  rfl
theorem pair_from (n : Nat) : ∀ (d i : Nat) (S : Seen) (l : List Ent) (x y z : Int), n - i = d → i ≤ n → (∀ b, i ≤ b → S 1 b = false ∧ S 2 b = false ∧ S 3 b = false ∧ S 4 b = false ∧ S 6 b = false ∧ S 10 b = false ∧ S 11 b = false ∧ S 12 b = false) → (∀ b, i + 1 ≤ b → S 5 b = false ∧ S 8 b = false ∧ S 9 b = false) →
    (dfs pairL (List.replicate n 97) S ((((1 : Nat) : Int), i, [x, -1, y, z]) :: l)).1.isSome = true := by
  intro d
  induction d with
  | zero =>
    intro i S l x y z hd hi hS hS3
    have hil : i = n := by omega
    have hik : i ≤ (List.replicate n (97 : UInt8)).length := by rw [List.length_replicate]; exact hi
    have hne : (List.replicate n (97 : UInt8))[i]? ≠ some 97 := by rw [List.getElem?_eq_none (by rw [List.length_replicate]; omega)]; simp
    have h0 := hS i (Nat.le_refl _)
    rw [dfs_go (x := ⟨2, 2, 10, []⟩) (m := [(2, [x, -1, y, z]), (10, [x, -1, y, z])]) rfl h0.1 hik rfl]
    show (dfs pairL _ (see S 1 i) ((((2 : Nat) : Int), i, [x, -1, y, z]) :: (((10 : Nat) : Int), i, [x, -1, y, z]) :: l)).1.isSome = true
    rw [dfs_go (x := ⟨4, 2, 0, []⟩) (m := [(3, [x, -1, (i : Int), z])]) rfl (by simp [see, h0.2.1]) hik (by simp [act, put])]
    show (dfs pairL _ _ ((((3 : Nat) : Int), i, [x, -1, (i : Int), z]) :: (((10 : Nat) : Int), i, [x, -1, y, z]) :: l)).1.isSome = true
    rw [dfs_go (x := ⟨2, 4, 6, []⟩) (m := [(4, [x, -1, (i : Int), z]), (6, [x, -1, (i : Int), z])]) rfl (by simp [see, h0.2.2.1]) hik rfl]
    show (dfs pairL _ _ ((((4 : Nat) : Int), i, [x, -1, (i : Int), z]) :: (((6 : Nat) : Int), i, [x, -1, (i : Int), z]) :: (((10 : Nat) : Int), i, [x, -1, y, z]) :: l)).1.isSome = true
    rw [dfs_dead (x := ⟨1, 0, 0, [97, 97]⟩) rfl (by simp [see, h0.2.2.2.1]) hik (set_miss hne)]
    rw [dfs_dead (x := ⟨1, 0, 0, [97, 97]⟩) rfl (by simp [see, h0.2.2.2.2.1]) hik (set_miss hne)]
    rw [dfs_go (x := ⟨6, 0, 0, []⟩) (m := [(11, [x, -1, y, z])]) rfl (by simp [see, h0.2.2.2.2.2.1]) hik (by simp [act, hil])]
    show (dfs pairL _ _ ((((11 : Nat) : Int), i, [x, -1, y, z]) :: l)).1.isSome = true
    rw [dfs_go (x := ⟨4, 1, 0, []⟩) (m := [(12, [x, (i : Int), y, z])]) rfl (by simp [see, h0.2.2.2.2.2.2.1]) hik (by simp [act, put])]
    show (dfs pairL _ _ ((((12 : Nat) : Int), i, [x, (i : Int), y, z]) :: l)).1.isSome = true
    rw [dfs_hit (x := ⟨7, 0, 0, []⟩) rfl (by simp [see, h0.2.2.2.2.2.2.2]) hik rfl]
    rfl
  | succ d ih =>
    intro i S l x y z hd hi hS hS3
    have hik : i ≤ (List.replicate n (97 : UInt8)).length := by rw [List.length_replicate]; exact hi
    have hik1 : i + 1 ≤ (List.replicate n (97 : UInt8)).length := by rw [List.length_replicate]; omega
    have ha : (List.replicate n (97 : UInt8))[i]? = some 97 := by rw [List.getElem?_replicate, if_pos (by omega)]
    have h0 := hS i (Nat.le_refl _)
    have h3 := hS3 (i + 1) (Nat.le_refl _)
    rw [dfs_go (x := ⟨2, 2, 10, []⟩) (m := [(2, [x, -1, y, z]), (10, [x, -1, y, z])]) rfl h0.1 hik rfl]
    show (dfs pairL _ (see S 1 i) ((((2 : Nat) : Int), i, [x, -1, y, z]) :: (((10 : Nat) : Int), i, [x, -1, y, z]) :: l)).1.isSome = true
    rw [dfs_go (x := ⟨4, 2, 0, []⟩) (m := [(3, [x, -1, (i : Int), z])]) rfl (by simp [see, h0.2.1]) hik (by simp [act, put])]
    show (dfs pairL _ _ ((((3 : Nat) : Int), i, [x, -1, (i : Int), z]) :: (((10 : Nat) : Int), i, [x, -1, y, z]) :: l)).1.isSome = true
    rw [dfs_go (x := ⟨2, 4, 6, []⟩) (m := [(4, [x, -1, (i : Int), z]), (6, [x, -1, (i : Int), z])]) rfl (by simp [see, h0.2.2.1]) hik rfl]
    show (dfs pairL _ _ ((((4 : Nat) : Int), i, [x, -1, (i : Int), z]) :: (((6 : Nat) : Int), i, [x, -1, (i : Int), z]) :: (((10 : Nat) : Int), i, [x, -1, y, z]) :: l)).1.isSome = true
    rw [dfs_next (x := ⟨1, 0, 0, [97, 97]⟩) rfl (by simp [see, h0.2.2.2.1]) hik (set_hit ha)]
    rw [dfs_go (x := ⟨3, 8, 0, []⟩) (m := [(8, [x, -1, (i : Int), z])]) rfl (by simp [see, h3.1]) hik1 rfl]
    show (dfs pairL _ _ ((((8 : Nat) : Int), i + 1, [x, -1, (i : Int), z]) :: _)).1.isSome = true
    rw [dfs_go (x := ⟨4, 3, 0, []⟩) (m := [(9, [x, -1, (i : Int), ((i + 1 : Nat) : Int)])]) rfl (by simp [see, h3.2.1]) hik1 (by simp [act, put])]
    show (dfs pairL _ _ ((((9 : Nat) : Int), i + 1, [x, -1, (i : Int), ((i + 1 : Nat) : Int)]) :: _)).1.isSome = true
    rw [dfs_go (x := ⟨3, 1, 0, []⟩) (m := [(1, [x, -1, (i : Int), ((i + 1 : Nat) : Int)])]) rfl (by simp [see, h3.2.2]) hik1 rfl]
    show (dfs pairL _ _ ((((1 : Nat) : Int), i + 1, [x, -1, (i : Int), ((i + 1 : Nat) : Int)]) :: _)).1.isSome = true
    refine ih (i + 1) _ _ _ _ _ (by omega) (by omega) (fun b hb => ?_) (fun b hb => ?_)
    · have h1 := hS b (by omega)
      have : ¬ b = i := by omega
      simp [see, h1, this]
    · have h1 := hS3 b (by omega)
      have : ¬ b = i + 1 := by omega
      simp [see, h1, this]
theorem pair_found (n : Nat) : (findP 1 pairL (List.replicate n 97) 0).isSome = true := by
  unfold findP
  rw [if_neg (by omega)]
  show (first pairL (List.replicate n 97) 4 0 ((List.replicate n (97 : UInt8)).length + 1)).isSome = true
  unfold first walk
  show (Option.or (dfs pairL _ nothing ((((0 : Nat) : Int), 0, [-1, -1, -1, -1]) :: [])).1 _).isSome = true
  rw [dfs_go (x := ⟨4, 0, 0, []⟩) (m := [(1, [0, -1, -1, -1])]) rfl rfl (Nat.zero_le _) (by simp [act, put])]
  have h := pair_from n n 0 (see nothing 0 0) [] 0 (-1) (-1) (by omega) (Nat.zero_le _) (fun b _ => by simp [see, nothing]) (fun b _ => by simp [see, nothing])
  show (Option.or (dfs pairL (List.replicate n 97) (see nothing 0 0) ((((1 : Nat) : Int), 0, [0, -1, -1, -1]) :: [])).1 _).isSome = true
  rw [Option.isSome_or, h]
  rfl
theorem lead_rep (n : Nat) (m : List UInt8) : lead (List.replicate n 97 ++ m) = n + lead m := by
  induction n with
  | zero => simp
  | succ n ih =>
    rw [List.replicate_succ, List.cons_append]
    show (if (97 : UInt8) = 97 then lead (List.replicate n 97 ++ m) + 1 else 0) = _
    rw [if_pos rfl, ih]
    omega
end Pk
end Go.Proofs.Ytelbabgkpflckaa
