/-
  PkHas: CONTRACTS: chapter 12 stands on Has of chapter 11, on both sides: for every text.
  PkWayP: CHAPTER 12, MEMORY: the document's walk: the ways that are due, what was executed.
-/
import Derived.Test.YtelbabgkpflckaaJ5
import Derived.BigQuiet
import Derived.Laws.MakeOwn

set_option linter.unusedSimpArgs false
set_option linter.unusedVariables false
namespace Go.Proofs.Ytelbabgkpflckaa
open Go.RowKit
open Me

namespace Pk
theorem retb {a b : Bool} (h : a = b) : Ending.returned (.bool a) = .returned (.bool b) := by rw [h]
def sLen : Value → Nat | .string s => s.size | _ => 0
theorem has_two (a b c : UInt8) (r : List UInt8) : Rx.has (a :: b :: r) c = ((decide (a ≤ c) && decide (c ≤ b)) || Rx.has r c) := rfl
theorem le8 (a c : UInt8) : decide (a ≤ c) = decide (a.toNat ≤ c.toNat) := by
  apply decide_eq_decide.2
  exact UInt8.le_iff_toNat_le
theorem drop2 (a b : UInt8) (r : List UInt8) : (⟨(a :: b :: r).toArray⟩ : ByteArray).extract 2 (r.length + 1 + 1) = ⟨r.toArray⟩ := by
  apply ByteArray.ext
  rw [ByteArray.data_extract]
  simp
end Pk

set_option maxHeartbeats 1000000 in
theorem pkHas_any (l : List UInt8) (c : UInt8) (w : World) :
    Calls Try.prog 63 #[.string ⟨l.toArray⟩, .int .u8 (c.toNat : Int)] w fun e w' => e = .returned (.bool (Rx.has l c)) ∧ w = w' := by
  have HR0 := Lib.hid (rfl : Rx.has l c = Rx.has l c)
  obtain ⟨R, HR⟩ : ∃ R, Hid (Rx.has l c = R) := ⟨_, Lib.hid rfl⟩
  rw [HR.out]
  clear HR0
  go_enter Try.func63, Try.ntmps63
  go_wp2_with fail
  go_loopw [0] (fun x wr => ∃ m : List UInt8, x = .string ⟨m.toArray⟩ ∧ Hid (Rx.has m c = R) ∧ Hid (w = wr)) (fun x _ => Pk.sLen x)
  case atStart => exact ⟨l, rfl, HR, Lib.hid rfl⟩
  case round =>
    obtain ⟨m, rfl, HM, HW⟩ := hrel
    cases m with
    | nil =>
      have HQ : Hid (false = R) := Lib.hid HM.out
      go_wp2_with fail
      go_ret
      exact ⟨Pk.retb HQ.out, HW.out⟩
    | cons a m =>
      cases m with
      | nil =>
        have HQ : Hid (false = R) := Lib.hid HM.out
        go_wp2_with fail
        go_ret
        exact ⟨Pk.retb HQ.out, HW.out⟩
      | cons b r =>
        have HM2 : Hid (((decide (a.toNat ≤ c.toNat) && decide (c.toNat ≤ b.toNat)) || Rx.has r c) = R) := Lib.hid (by rw [← Pk.le8, ← Pk.le8]; exact HM.out)
        have hI : ¬ ((a :: b :: r).length : Int) < 2 := by simp; omega
        have hI2 : (2 : Int) ≤ ((a :: b :: r).length : Int) := by simp; omega
        have HD := Lib.hid (Pk.drop2 a b r)
        have z0 : 0 < (⟨(a :: b :: r).toArray⟩ : ByteArray).size := by show 0 < (a :: b :: r).toArray.size; simp
        have z1 : 1 < (⟨(a :: b :: r).toArray⟩ : ByteArray).size := by show 1 < (a :: b :: r).toArray.size; simp
        have g0 : (⟨(a :: b :: r).toArray⟩ : ByteArray)[0]'z0 = a := rfl
        have g1 : (⟨(a :: b :: r).toArray⟩ : ByteArray)[1]'z1 = b := rfl
        have HN : Hid (Rx.has r c = R → ∃ m : List UInt8, Value.string ((⟨(a :: b :: r).toArray⟩ : ByteArray).extract 2 (r.length + 1 + 1)) = .string ⟨m.toArray⟩ ∧ Hid (Rx.has m c = R) ∧ Hid (w = wr)) := Lib.hid fun h => ⟨r, by rw [HD.out], Lib.hid h, HW⟩
        have HN2 : Hid (Pk.sLen (Value.string ((⟨(a :: b :: r).toArray⟩ : ByteArray).extract 2 (r.length + 1 + 1))) < Pk.sLen (.string ⟨(a :: b :: r).toArray⟩)) := Lib.hid (by rw [HD.out]; show r.toArray.size < (a :: b :: r).toArray.size; simp; omega)
        by_cases h1 : a.toNat ≤ c.toNat
        · have h1I : (a.toNat : Int) ≤ (c.toNat : Int) := by omega
          by_cases h2 : c.toNat ≤ b.toNat
          · have h2I : (c.toNat : Int) ≤ (b.toNat : Int) := by omega
            have HQ : Hid (true = R) := Lib.hid (by rw [← HM2.out]; simp [h1, h2])
            clear h1 h2
            go_wp2_with fail
            go_ret
            exact ⟨Pk.retb HQ.out, HW.out⟩
          · have h2I : ¬ (c.toNat : Int) ≤ (b.toNat : Int) := by omega
            have HQ : Hid (Rx.has r c = R) := Lib.hid (by rw [← HM2.out]; simp [h1, h2])
            clear h1 h2
            go_wp2_with fail
            go_roundw
            case rel => exact HN.out HQ.out
            case measure => exact HN2.out
        · have h1I : ¬ (a.toNat : Int) ≤ (c.toNat : Int) := by omega
          have HQ : Hid (Rx.has r c = R) := Lib.hid (by rw [← HM2.out]; simp [h1])
          clear h1
          go_wp2_with fail
          go_roundw
          case rel => exact HN.out HQ.out
          case measure => exact HN2.out

set_option maxHeartbeats 1000000 in
theorem pkRefHas_any (l : List UInt8) (hl : l.length ≤ 1048576) (c : UInt8) (w : World) :
    Calls Try.prog 44 #[.string ⟨l.toArray⟩, .int .u8 (c.toNat : Int)] w fun e w' => e = .returned (.bool (Rx.has l c)) ∧ w = w' := by
  obtain ⟨R, HR⟩ : ∃ R, Hid (Rx.has l c = R) := ⟨_, Lib.hid rfl⟩
  rw [HR.out]
  go_enter Try.func44, Try.ntmps44
  go_wp2_with fail
  go_loopw [5] (fun x wr => ∃ k : Nat, x = .int .i64 k ∧ k ≤ l.length + 1 ∧ Hid (Rx.has (l.drop k) c = R) ∧ Hid (w = wr)) (fun x _ => l.length + 1 - (intOf x).toNat)
  case atStart => exact ⟨0, rfl, by omega, Lib.hid HR.out, Lib.hid rfl⟩
  case round =>
    obtain ⟨k, rfl, hk, HM, HW⟩ := hrel
    have hwk : IntKind.i64.wrap ((k : Int) + 1) = ((k + 1 : Nat) : Int) := by rw [IntKind.wrap_i64]; omega
    have hwk2 : IntKind.i64.wrap ((k : Int) + 2) = ((k + 2 : Nat) : Int) := by rw [IntKind.wrap_i64]; omega
    by_cases hgo : k + 1 < l.length
    · have hgI : ((k + 1 : Nat) : Int) < (l.length : Int) := by omega
      have hk0 : (0 : Int) ≤ (k : Int) := by omega
      have hk1 : (k : Int) < (l.length : Int) := by omega
      have zl : (⟨l.toArray⟩ : ByteArray).size = l.length := by show l.toArray.size = _; simp
      have z0 : k < (⟨l.toArray⟩ : ByteArray).size := by omega
      have z1 : k + 1 < (⟨l.toArray⟩ : ByteArray).size := by omega
      obtain ⟨a, g0⟩ : ∃ a, (⟨l.toArray⟩ : ByteArray)[k]'z0 = a := ⟨_, rfl⟩
      obtain ⟨b, g1⟩ : ∃ b, (⟨l.toArray⟩ : ByteArray)[k + 1]'z1 = b := ⟨_, rfl⟩
      have HM2 : Hid (((decide (a.toNat ≤ c.toNat) && decide (c.toNat ≤ b.toNat)) || Rx.has (l.drop (k + 2)) c) = R) := Lib.hid (by
        have e : l.drop k = a :: b :: l.drop (k + 2) := by
          rw [List.drop_eq_getElem_cons (by omega : k < l.length), List.drop_eq_getElem_cons (by omega : k + 1 < l.length)]
          rw [← g0, ← g1]
          rfl
        have := HM.out
        rw [e, Pk.has_two, Pk.le8, Pk.le8] at this
        exact this)
      clear zl
      by_cases h1 : a.toNat ≤ c.toNat
      · have h1I : (a.toNat : Int) ≤ (c.toNat : Int) := by omega
        by_cases h2 : c.toNat ≤ b.toNat
        · have h2I : (c.toNat : Int) ≤ (b.toNat : Int) := by omega
          have HQ : Hid (true = R) := Lib.hid (by rw [← HM2.out]; simp [h1, h2])
          go_wp2_with fail
          go_ret
          exact ⟨Pk.retb HQ.out, HW.out⟩
        · have h2I : ¬ (c.toNat : Int) ≤ (b.toNat : Int) := by omega
          have HQ : Hid (Rx.has (l.drop (k + 2)) c = R) := Lib.hid (by rw [← HM2.out]; simp [h1, h2])
          go_wp2_with fail
          go_roundw
          case rel => exact ⟨k + 2, by go_num, by omega, HQ, HW⟩
          case measure => simp [intOf]; omega
      · have h1I : ¬ (a.toNat : Int) ≤ (c.toNat : Int) := by omega
        have HQ : Hid (Rx.has (l.drop (k + 2)) c = R) := Lib.hid (by rw [← HM2.out]; simp [h1])
        go_wp2_with fail
        go_roundw
        case rel => exact ⟨k + 2, by go_num, by omega, HQ, HW⟩
        case measure => simp [intOf]; omega
    · have hgI : ¬ ((k + 1 : Nat) : Int) < (l.length : Int) := by omega
      have HQ : Hid (false = R) := Lib.hid (by
        have := HM.out
        cases hd : l.drop k with
        | nil => rw [hd] at this; exact this
        | cons a t =>
          cases t with
          | nil => rw [hd] at this; exact this
          | cons b r => have := congrArg List.length hd; simp at this; omega)
      go_wp2_with fail
      go_ret
      exact ⟨Pk.retb HQ.out, HW.out⟩
end Go.Proofs.Ytelbabgkpflckaa

namespace Go.Proofs.Ytelbabgkpflckaa
open Go.RowKit Go.Sort
open Me
namespace Pk
open Rx (In)
/-- A way that is due: with the slice that has what was recorded. -/
structure Way where
  pc : Int
  at_ : Nat
  v : Value
  r : Row
def Way.ent (x : Way) : Ent := (x.pc, x.at_, x.r)
def wcell (x : Way) : List Value := [.int .i64 x.pc, .int .i64 x.at_, x.v]
def wcells (l : List Way) : List Value := l.flatMap wcell
theorem wcells_len (l : List Way) : (wcells l).length = l.length * 3 := flat_len wcell 3 (fun _ => rfl) l
theorem wcells_append (l m : List Way) : wcells (l ++ m) = wcells l ++ wcells m := by unfold wcells; rw [List.flatMap_append]
def boolT : TypeId := 4
def wayT : TypeId := 93
theorem way_info : (Try.prog.info? 93).map (fun i => (i.zero, i.size, i.bytes)) = some (some (.agg #[.int .i64 0, .int .i64 0, .slice none 0 0]), 3, 40) := by kernel_rfl
theorem bool_info : (Try.prog.info? 4).map (fun i => (i.zero, i.size, i.bytes)) = some (some (.bool false), 1, 1) := by kernel_rfl
/-- What was executed, as it is laid. -/
def rdS (N : Nat) (bs : List Bool) : Seen := fun p a => decide (a ≤ N) && bs.getD (p * (N + 1) + a) false
theorem rdS_set (N : Nat) (bs : List Bool) (p a : Nat) (ha : a ≤ N) (hl : p * (N + 1) + a < bs.length) : rdS N (bs.set (p * (N + 1) + a) true) = see (rdS N bs) p a := by
  funext q b
  unfold rdS see
  by_cases hb : b ≤ N
  · by_cases e : q = p ∧ b = a
    · obtain ⟨rfl, rfl⟩ := e
      rw [List.getD_eq_getElem?_getD, List.getElem?_set_self hl]
      simp [hb]
    · have hne : p * (N + 1) + a ≠ q * (N + 1) + b := by
        intro h
        apply e
        have h1 := lin_at N (fun x y => decide (x = p ∧ y = a)) p a ha
        have h2 := lin_at N (fun x y => decide (x = p ∧ y = a)) q b hb
        rw [h] at h1
        rw [h1] at h2
        simpa using h2.symm
      rw [List.getD_eq_getElem?_getD, List.getElem?_set_ne hne, ← List.getD_eq_getElem?_getD]
      have : (decide (q = p) && decide (b = a)) = false := by simpa using e
      rw [this, Bool.or_false]
  · have : ¬ b = a := by omega
    simp [hb, this]
theorem rdS_none (N n : Nat) : rdS N (List.replicate n false) = nothing := by
  funext p a
  unfold rdS nothing
  have : (List.replicate n false).getD (p * (N + 1) + a) false = false := by
    rw [List.getD_eq_getElem?_getD, List.getElem?_replicate]
    split <;> rfl
  rw [this, Bool.and_false]
/-- The walk under way. -/
structure Wl (W : World) (b0 gs wd : Nat) (L : List In) (t : List UInt8) (lv : Value) (ws : List Way) (bs : List Bool) : Prop where
  own : W.ownsRow b0 wayT 3 lv ws.length (wcells ws.reverse)
  seen : W.heap[gs]? = some (.cells (bs.map Value.bool).toArray boolT (0, 0))
  gs0 : b0 ≤ gs
  ne : lv.ownBlock ≠ some gs
  rows : ∀ x ∈ ws, ∃ A c, x.v = .slice A x.r.length c ∧ Rd W (fun i => b0 ≤ i ∧ i ≠ gs ∧ lv.ownBlock ≠ some i) A (iv x.r)
  len : bs.length = L.length * (t.length + 1)
  at_ : ∀ x ∈ ws, x.at_ ≤ t.length
  rl : ∀ x ∈ ws, x.r.length = wd
def leftS (gs n : Nat) (w : World) : Nat := free n fun i => match w.cell? ⟨gs, i, none⟩ with
  | some (.bool b) => b
  | _ => false
theorem idx_lt {L : List In} {t : List UInt8} {p a : Nat} (hp : p < L.length) (ha : a ≤ t.length) : p * (t.length + 1) + a < L.length * (t.length + 1) := by
  have := Nat.mul_le_mul_right (t.length + 1) (show p + 1 ≤ L.length by omega)
  rw [Nat.add_mul] at this
  omega
section
variable {W W' : World} {b0 gs wd : Nat} {L : List In} {t : List UInt8} {lv : Value} {ws : List Way} {bs : List Bool}
theorem Wl.cell (h : Wl W b0 gs wd L t lv ws bs) (i : Nat) (hi : i < bs.length) : W.cell? ⟨gs, i, none⟩ = some (.bool bs[i]) ∧ W.frozen? ⟨gs, i, none⟩ = false := by
  refine ⟨?_, by simp [World.frozen?, h.seen]⟩
  rw [cell_of_row W gs i _ _ _ h.seen]
  simp [hi]
theorem Wl.left (h : Wl W b0 gs wd L t lv ws bs) : leftS gs (L.length * (t.length + 1)) W = free (L.length * (t.length + 1)) (fun i => bs.getD i false) := by
  unfold leftS free
  apply List.countP_congr
  intro i hi
  have hi := List.mem_range.1 hi
  have hl : i < bs.length := by rw [h.len]; exact hi
  simp only [(h.cell i hl).1]
  simp [hl]
theorem left_set (n : Nat) (bs : List Bool) (i : Nat) (hi : i < n) (hl : i < bs.length) (hb : bs.getD i false = false) : free n (fun j => (bs.set i true).getD j false) + 1 = free n (fun j => bs.getD j false) := by
  have : (fun j => (bs.set i true).getD j false) = mark (fun j => bs.getD j false) i := by
    funext j
    show (bs.set i true).getD j false = (bs.getD j false || decide (j = i))
    rw [List.getD_eq_getElem?_getD, List.getD_eq_getElem?_getD, List.getElem?_set]
    by_cases e : i = j
    · subst e
      simp [hl]
    · have : ¬ j = i := fun h => e h.symm
      simp [e, this]
  rw [this]
  exact free_mark n _ i hi hb
/-- New blocks change nothing. -/
theorem Wl.keep (h : Wl W b0 gs wd L t lv ws bs) (hb : Below W.heap.size W W') : Wl W' b0 gs wd L t lv ws bs := by
  refine ⟨owns_keep h.own fun g hg => hb.block g (World.ownsRow.lt h.own g hg).2, (hb.block gs (Array.getElem?_eq_some_iff.1 h.seen).1).trans h.seen, h.gs0, h.ne, fun x hx => ?_, h.len, h.at_, h.rl⟩
  obtain ⟨A, c, e, hr⟩ := h.rows x hx
  exact ⟨A, c, e, hr.below hb⟩
/-- The topmost way is taken off. -/
theorem Wl.pop {x : Way} {g cap : Nat} (h : Wl W b0 gs wd L t (.slice (some ⟨g, 0, none⟩) (ws.length + 1) cap) (x :: ws) bs) : Wl W b0 gs wd L t (.slice (some ⟨g, 0, none⟩) ws.length cap) ws bs := by
  have ho : W.ownsRow b0 wayT 3 (.slice (some ⟨g, 0, none⟩) (ws.length + 1) cap) (ws.length + 1) (wcells (x :: ws).reverse) := h.own
  rw [List.reverse_cons, wcells_append] at ho
  exact ⟨ownsRow_pop (by rw [wcells_len, List.length_reverse]) ho, h.seen, h.gs0, h.ne, fun y hy => h.rows y (List.mem_cons_of_mem _ hy), h.len, fun y hy => h.at_ y (List.mem_cons_of_mem _ hy), fun y hy => h.rl y (List.mem_cons_of_mem _ hy)⟩
theorem Wl.top {x : Way} {g cap : Nat} (h : Wl W b0 gs wd L t (.slice (some ⟨g, 0, none⟩) (ws.length + 1) cap) (x :: ws) bs) :
    W.cell? ⟨g, ws.length * 3, none⟩ = some (.int .i64 x.pc) ∧ W.cell? ⟨g, ws.length * 3 + 1, none⟩ = some (.int .i64 x.at_) ∧ W.cell? ⟨g, ws.length * 3 + 2, none⟩ = some x.v := by
  have ho : W.ownsRow b0 wayT 3 (.slice (some ⟨g, 0, none⟩) (ws.length + 1) cap) (ws.length + 1) (wcells (x :: ws).reverse) := h.own
  rw [List.reverse_cons, wcells_append] at ho
  have key : ∀ j, j < 3 → W.cell? ⟨g, ws.length * 3 + j, none⟩ = (wcell x)[j]? := fun j hj => by
    rw [World.ownsRow.cellAt ho (ws.length * 3 + j) (by omega), List.getElem?_append_right (by rw [wcells_len, List.length_reverse]; omega), wcells_len, List.length_reverse, Nat.add_sub_cancel_left]
    show ([x].flatMap wcell)[j]? = _
    rw [List.flatMap_cons, List.flatMap_nil, List.append_nil]
  exact ⟨(key 0 (by omega)).trans rfl, (key 1 (by omega)).trans rfl, (key 2 (by omega)).trans rfl⟩
/-- What is executed is marked. -/
theorem Wl.marked (h : Wl W b0 gs wd L t lv ws bs) (i : Nat) : Wl (W.setCell ⟨gs, i, none⟩ (.bool true)) b0 gs wd L t lv ws (bs.set i true) := by
  refine ⟨owns_keep h.own fun g hg => Below.heap_setCell W _ _ g (by
      show g ≠ gs
      intro e
      subst e
      exact h.ne hg), ?_, h.gs0, h.ne, fun x hx => ?_, by rw [List.length_set]; exact h.len, h.at_, h.rl⟩
  · have := heap_setCell_same W gs i _ _ (.bool true) h.seen
    rw [this]
    congr 2
    apply Array.toList_inj.1
    rw [Array.toList_setIfInBounds]
    simp [List.map_set]
  · obtain ⟨A, c, e, hr⟩ := h.rows x hx
    exact ⟨A, c, e, hr.keep (by simp [World.setCell]) fun i hi hg => Below.heap_setCell W _ _ i (by show i ≠ gs; exact hg.2.1)⟩
/-- Ways are laid on top, as an append leaves them. -/
theorem Wl.push {B : World} (h : Wl W b0 gs wd L t lv ws bs) (hB : Below W.heap.size W B) {v2 : Value} {new : List Way} (ho : W'.ownsRow b0 wayT 3 v2 (ws.length + new.length) (wcells ws.reverse ++ wcells new)) (hg : B.grownBy W' lv.ownBlock) (ha : v2.ownBlock = lv.ownBlock ∨ v2.ownBlock = some B.heap.size)
    (hn : ∀ x ∈ new, (∃ A c, x.v = .slice A x.r.length c ∧ Rd W (fun i => b0 ≤ i ∧ i ≠ gs ∧ lv.ownBlock ≠ some i) A (iv x.r)) ∧ x.at_ ≤ t.length ∧ x.r.length = wd) : Wl W' b0 gs wd L t v2 (new.reverse ++ ws) bs := by
  have hs := hB.size
  have hgl := (Array.getElem?_eq_some_iff.1 h.seen).1
  have hk : ∀ i, i < W.heap.size → lv.ownBlock ≠ some i → W'.heap[i]? = W.heap[i]? := fun i hi hne => (hg.block i (by omega) fun e => hne e.symm).trans (hB.block i hi)
  have hr : ∀ {A : Option Addr} {xs : List Value}, Rd W (fun i => b0 ≤ i ∧ i ≠ gs ∧ lv.ownBlock ≠ some i) A xs → Rd W' (fun i => b0 ≤ i ∧ i ≠ gs ∧ v2.ownBlock ≠ some i) A xs := fun hr hn => by
    obtain ⟨ad, e, hl, ⟨h1, h2, h3⟩, hc⟩ := hr hn
    refine ⟨ad, e, by have := hg.size; omega, ⟨h1, h2, fun e2 => ?_⟩, fun j u hu => (World.cell?_of_block (by rw [Me.block_add]; exact hk _ hl h3)).trans (hc j u hu)⟩
    rcases ha with e3 | e3
    · exact h3 (e3.symm.trans e2)
    · have := Option.some.inj (e3.symm.trans e2)
      omega
  refine ⟨?_, (hk gs hgl h.ne).trans h.seen, h.gs0, ?_, ?_, h.len, ?_, ?_⟩
  · rw [List.length_append, List.length_reverse, Nat.add_comm, List.reverse_append, List.reverse_reverse, wcells_append]
    exact ho
  · intro e
    rcases ha with e3 | e3
    · exact h.ne (e3.symm.trans e)
    · have := Option.some.inj (e3.symm.trans e)
      omega
  · intro x hx
    rcases List.mem_append.1 hx with hx | hx
    · obtain ⟨A, c, e, h2⟩ := (hn x (List.mem_reverse.1 hx)).1
      exact ⟨A, c, e, hr h2⟩
    · obtain ⟨A, c, e, h2⟩ := h.rows x hx
      exact ⟨A, c, e, hr h2⟩
  · intro x hx
    rcases List.mem_append.1 hx with hx | hx
    · exact (hn x (List.mem_reverse.1 hx)).2.1
    · exact h.at_ x hx
  · intro x hx
    rcases List.mem_append.1 hx with hx | hx
    · exact (hn x (List.mem_reverse.1 hx)).2.2
    · exact h.rl x hx
end
theorem prog_cells2 {W : World} {G : Nat → Prop} {A : Option Addr} {L : List In} (h : Rd W G A (icells L)) {hd : Int} {x : In} (hx : fetch L hd = some x) : ∃ pb po, A = some ⟨pb, po, none⟩ ∧ pb < W.heap.size ∧
    W.cell? ⟨pb, po + hd.toNat * 4, none⟩ = some (.int .i64 x.op) ∧ W.cell? ⟨pb, po + hd.toNat * 4 + 1, none⟩ = some (.int .i64 x.x) ∧ W.cell? ⟨pb, po + hd.toNat * 4 + 2, none⟩ = some (.int .i64 x.y) ∧ W.cell? ⟨pb, po + hd.toNat * 4 + 3, none⟩ = some (.string ⟨x.p.toArray⟩) ∧ G pb := by
  have hf := fetch_some hx
  have hlen : (icells L).length = L.length * 4 := flat_len icell 4 (fun _ => rfl) L
  obtain ⟨pb, po, hpa, hpl, hpg, hpc⟩ := h.lit (hd.toNat * 4) (by rw [hlen]; omega)
  have hget : L[hd.toNat]'hf.2.1 = x := by have := hf.2.2; rw [List.getElem?_eq_getElem hf.2.1] at this; exact Option.some.inj this
  have key : ∀ j, j < 4 → (icells L)[hd.toNat * 4 + j]? = (icell x)[j]? := fun j hj => by
    have := flat_at icell 4 (fun _ => rfl) L hd.toNat j hf.2.1 hj
    rw [hget] at this
    exact this
  refine ⟨pb, po, hpa, hpl, ?_, ?_, ?_, ?_, hpg⟩
  · exact hpc _ _ ((key 0 (by omega)).trans rfl)
  · rw [Nat.add_assoc]; exact hpc _ _ ((key 1 (by omega)).trans rfl)
  · rw [Nat.add_assoc]; exact hpc _ _ ((key 2 (by omega)).trans rfl)
  · rw [Nat.add_assoc]; exact hpc _ _ ((key 3 (by omega)).trans rfl)
def lenOf : Value → Nat
  | .slice _ n _ => n
  | _ => 0
theorem fetch_cases2 (L : List In) (h : Int) : (fetch L h = none ∧ (h < 0 ∨ (L.length : Int) ≤ h)) ∨ ∃ x, fetch L h = some x ∧ 0 ≤ h ∧ h < (L.length : Int) := by
  unfold fetch
  by_cases h0 : 0 ≤ h
  · rw [if_pos h0]
    by_cases h1 : h.toNat < L.length
    · exact .inr ⟨_, List.getElem?_eq_getElem h1, h0, by omega⟩
    · exact .inl ⟨List.getElem?_eq_none (by omega), .inr (by omega)⟩
  · rw [if_neg h0]
    exact .inl ⟨rfl, .inl (by omega)⟩
theorem kgrown2 (W : World) : (∀ d os b o, b < W.heap.size → (Go.Sort.grow (redrawn W d) os).cell? ⟨b, o, none⟩ = W.cell? ⟨b, o, none⟩) ∧ (∀ d os b o, b < W.heap.size → (Go.Sort.grow (redrawn W d) os).frozen? ⟨b, o, none⟩ = W.frozen? ⟨b, o, none⟩) :=
  ⟨fun d os b o h => (below_regrown W d os).cell (p := ⟨b, o, none⟩) h, fun d os b o h => (below_regrown W d os).frozen (p := ⟨b, o, none⟩) h⟩
theorem hnew2 {w : World} {g : Nat} {cs : Array Value} {t : TypeId} (h : g = w.heap.size) : (w.alloc (.cells cs t)).heap[g]? = some (.cells cs t (0, 0)) := by
  subst h
  exact heap_alloc_new w _
theorem free_le (n : Nat) (A : Nat → Bool) : free n A ≤ n := by
  unfold free
  have := List.countP_le_length (p := fun i => !A i) (l := List.range n)
  rwa [List.length_range] at this
end Pk
theorem RowAt.new' {w : World} {g : Nat} {cs : Array Value} {t : TypeId} (h : g = w.heap.size) : RowAt (w.alloc (.cells cs t)) g t cs := by subst h; exact RowAt.new w cs t
namespace Pk
end Pk
end Go.Proofs.Ytelbabgkpflckaa
