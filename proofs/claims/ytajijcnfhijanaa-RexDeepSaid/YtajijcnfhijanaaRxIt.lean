/-
  CONTRACTS: chapter 11: the items of a bracket expression.
-/
import Derived.Test.YtajijcnfhijanaaRxTake
namespace Go.Proofs.Ytajijcnfhijanaa
open Go.RowKit
open Me

namespace Rx
/-- A set that was read, or none: then what is left does not matter. -/
def TookI (w : World) (b : Nat) (r : Option (St × List UInt8)) (g d : Nat) (e : Ending) (w' : World) : Prop :=
  (∃ f m, r = some (f, m) ∧ e = .returned (.tuple #[.agg (cel f), .bool true]) ∧ Took w b m g d w') ∨ (r = none ∧ (∃ f, e = .returned (.tuple #[.agg (cel f), .bool false])) ∧ ∃ m, Took w b m g d w')
/-- A reader with a result's cell and a set under way. -/
structure ItW (w W : World) (b : Nat) (l : List UInt8) (g d : Nat) (f : St) : Prop where
  took : Took w b l g d W
  res : RowAt W w.heap.size 73 Try.zeroCells73
  row : RowAt W (w.heap.size + 1) 73 (cel f)
  lt : b < w.heap.size
theorem ItW.start {w : World} {b g d : Nat} {l : List UInt8} (h : PsAt w b l g d) : ItW w ((w.alloc (.cells Try.zeroCells73 73)).alloc (.cells Try.zeroCells73 73)) b l g d none_ :=
  ⟨(Took.refl h).on (SetW.start w).below, (SetW.start w).res, (SetW.start w).row, h.lt⟩
theorem ItW.on {w W W' : World} {b g d : Nat} {l : List UInt8} {f : St} (h : ItW w W b l g d f) (k : Below W.heap.size W W') : ItW w W' b l g d f :=
  ⟨h.took.on k, h.res.below k h.res.lt, h.row.below k h.row.lt, h.lt⟩
theorem ItW.alloc {w W : World} {b g d : Nat} {l : List UInt8} {f : St} (h : ItW w W b l g d f) (o : Obj) : ItW w (W.alloc o) b l g d f := h.on ((Below.refl _ _).alloc (Nat.le_refl _) _)
theorem ItW.took_ {w W W' : World} {b g d : Nat} {l m : List UInt8} {f : St} (h : ItW w W b l g d f) (k : Took W b m g d W') : ItW w W' b m g d f := by
  have := h.lt
  exact ⟨h.took.trans k, k.kpRow h.res (by omega), k.kpRow h.row (by omega), h.lt⟩
theorem ItW.turn {w W W' : World} {b g d : Nat} {l : List UInt8} {f f2 : St} {e : Ending} (h : ItW w W b l g d f) (k : Turned W (w.heap.size + 1) 73 f2 e W') : e = .returned (.tuple #[]) ∧ ItW w W' b l g d f2 := by
  have hlt := h.lt
  have h2 := h.res.lt
  obtain ⟨k1, k2, k3⟩ := k
  refine ⟨k1, ⟨(k3.block b h.took.at_.lt (by show b ≠ _; omega)).trans h.took.at_, h.took.kp.trans k3 fun i hi e => by omega⟩, (k3.block w.heap.size h2 (by omega)).trans h.res, k2, hlt⟩
theorem ItW.takes {w W : World} {b g d : Nat} {l : List UInt8} {f : St} (h : ItW w W b l g d f) (c : UInt8) :
    Calls Try.prog 20 #[.pointer (some ⟨b, 0, none⟩), .string ⟨#[c]⟩] W fun e W' => e = .returned (.bool (starts c l)) ∧ ItW w W' b (if starts c l then l.drop 1 else l) g d f :=
  (takes_one h.took.at_ c).mono fun _ _ k => ⟨k.1, h.took_ k.2⟩
theorem ItW.takes_no {w W : World} {b g d : Nat} {l : List UInt8} {f : St} (h : ItW w W b l g d f) {c : UInt8} (hs : starts c l = false) :
    Calls Try.prog 20 #[.pointer (some ⟨b, 0, none⟩), .string ⟨#[c]⟩] W fun e W' => e = .returned (.bool false) ∧ ItW w W' b l g d f := by
  have := h.takes c
  rw [hs] at this
  exact this
theorem ItW.takes_yes {w W : World} {b g d : Nat} {l : List UInt8} {f : St} (h : ItW w W b l g d f) {c : UInt8} (hs : starts c l = true) :
    Calls Try.prog 20 #[.pointer (some ⟨b, 0, none⟩), .string ⟨#[c]⟩] W fun e W' => e = .returned (.bool true) ∧ ItW w W' b (l.drop 1) g d f := by
  have := h.takes c
  rw [hs] at this
  exact this
theorem ItW.class_yes {w W : World} {b g d : Nat} {l : List UInt8} {f c : St} (h : ItW w W b l g d f) (hc : classOf l = some c) :
    Calls Try.prog 49 #[.pointer (some ⟨b, 0, none⟩)] W fun e W' => e = .returned (.tuple #[.agg (cel c), .bool true]) ∧ ItW w W' b (l.drop 2) g d f := by
  refine (takeClass_any h.took.at_).mono fun e W' k => ?_
  rw [hc] at k
  rcases k with ⟨f2, m, h1, h2, h3⟩ | ⟨h1, _⟩
  · cases h1; exact ⟨h2, h.took_ h3⟩
  · cases h1
theorem ItW.class_no {w W : World} {b g d : Nat} {l : List UInt8} {f : St} (h : ItW w W b l g d f) (hc : classOf l = none) :
    Calls Try.prog 49 #[.pointer (some ⟨b, 0, none⟩)] W fun e W' => ∃ c, e = .returned (.tuple #[.agg (cel c), .bool false]) ∧ ItW w W' b l g d f := by
  refine (takeClass_any h.took.at_).mono fun e W' k => ?_
  rw [hc] at k
  rcases k with ⟨f2, m, h1, h2, h3⟩ | ⟨h1, ⟨c, h2⟩, h3⟩
  · cases h1
  · exact ⟨c, h2, h.took_ h3⟩
theorem ItW.alone {w W : World} {b g d : Nat} {l : List UInt8} {f : St} (h : ItW w W b l g d f) :
    Calls Try.prog 64 #[.string ⟨l.toArray⟩] W fun e W' => e = .returned (.bool (Rx.isAlone l)) ∧ ItW w W' b l g d f :=
  (isAlone_any l W).mono fun _ _ k => ⟨k.1, h.on k.2⟩
theorem ItW.range {w W : World} {b g d : Nat} {l : List UInt8} {f : St} (h : ItW w W b l g d f) :
    Calls Try.prog 65 #[.pointer (some ⟨b, 0, none⟩)] W fun e W' => e = .returned (.bool (Rx.isRange l)) ∧ ItW w W' b l g d f :=
  (isRange_any h.took.at_).mono fun _ _ k => ⟨k.1, h.on k.2⟩
theorem ItW.begins {w W : World} {b g d : Nat} {l : List UInt8} {f : St} (h : ItW w W b l g d f) (c : UInt8) :
    Calls Try.prog 26 #[.pointer (some ⟨b, 0, none⟩), .string ⟨#[c]⟩] W fun e W' => e = .returned (.bool (starts c l)) ∧ W = W' := begins_one h.took.at_ c
theorem ItW.byte_yes {w W : World} {b g d : Nat} {l r : List UInt8} {c : UInt8} {f : St} (h : ItW w W b l g d f) (hc : takeByte l = some (c, r)) :
    Calls Try.prog 50 #[.pointer (some ⟨b, 0, none⟩)] W fun e W' => e = .returned (.tuple #[.int .u8 (c.toNat : Int), .bool true]) ∧ ItW w W' b r g d f := by
  refine (takeByte_any h.took.at_).mono fun e W' k => ?_
  rcases k with ⟨c2, m, h1, h2, h3⟩ | ⟨h1, _⟩
  · rw [hc] at h1; cases h1; exact ⟨h2, h.took_ h3⟩
  · rw [hc] at h1; cases h1
theorem ItW.byte_no {w W : World} {b g d : Nat} {l : List UInt8} {f : St} (h : ItW w W b l g d f) (hc : takeByte l = none) :
    Calls Try.prog 50 #[.pointer (some ⟨b, 0, none⟩)] W fun e W' => e = .returned (.tuple #[.int .u8 0, .bool false]) ∧ ∃ m, ItW w W' b m g d f := by
  refine (takeByte_any h.took.at_).mono fun e W' k => ?_
  rcases k with ⟨c2, m, h1, h2, h3⟩ | ⟨_, h2, m, h3⟩
  · rw [hc] at h1; cases h1
  · exact ⟨h2, m, h.took_ h3⟩
theorem ItW.add_ {w W : World} {b g d : Nat} {l : List UInt8} {f : St} (h : ItW w W b l g d f) (lo hi : UInt8) :
    Calls Try.prog 46 #[.pointer (some ⟨w.heap.size + 1, 0, none⟩), .int .u8 (lo.toNat : Int), .int .u8 (hi.toNat : Int)] W fun e W' => e = .returned (.tuple #[]) ∧ ItW w W' b l g d (add f lo.toNat hi.toNat) :=
  (sAdd_any h.row lo.toNat hi.toNat (UInt8.toNat_lt _) (UInt8.toNat_lt _)).mono fun _ _ k => h.turn k
theorem ItW.join_ {w W : World} {b g d : Nat} {l : List UInt8} {f : St} (h : ItW w W b l g d f) (c : St) :
    Calls Try.prog 63 #[.pointer (some ⟨w.heap.size + 1, 0, none⟩), .agg (cel c)] W fun e W' => e = .returned (.tuple #[]) ∧ ItW w W' b l g d (join f c) :=
  (sJoin_any h.row).mono fun _ _ k => h.turn k
theorem ItW.invert_ {w W : World} {b g d : Nat} {l : List UInt8} {f : St} (h : ItW w W b l g d f) :
    Calls Try.prog 47 #[.pointer (some ⟨w.heap.size + 1, 0, none⟩)] W fun e W' => e = .returned (.tuple #[]) ∧ ItW w W' b l g d (inv f) :=
  (sInvert_any h.row).mono fun _ _ k => h.turn k
theorem ItW.yes {w W : World} {b g d : Nat} {l : List UInt8} {f : St} (h : ItW w W b l g d f) : TookI w b (some (f, l)) g d (.returned (.tuple #[.agg (cel f), .bool true])) (W.setRow w.heap.size (cel f)) :=
  .inl ⟨f, l, rfl, rfl, h.took.setRow (Nat.le_refl _) h.lt _⟩
theorem ItW.no {w W : World} {b g d : Nat} {l : List UInt8} {f : St} (h : ItW w W b l g d f) : TookI w b none g d (.returned (.tuple #[.agg (cel f), .bool false])) (W.setRow w.heap.size (cel f)) :=
  .inr ⟨rfl, ⟨f, rfl⟩, l, h.took.setRow (Nat.le_refl _) h.lt _⟩
/-- How long what is left in a parser's box is. -/
def left (w : World) (b : Nat) : Nat := match w.cell? ⟨b, 0, none⟩ with
  | some (.string s) => s.size
  | _ => 0
theorem ItW.left {w W : World} {b g d : Nat} {l : List UInt8} {f : St} (h : ItW w W b l g d f) : Rx.left W b = l.length := by
  unfold Rx.left
  rw [h.took.at_.c0]
  show l.toArray.size = _
  simp

section
variable {k : Nat} {aft fst : Bool} {m r r2 : List UInt8} {f c : St} {lo hi : UInt8}
theorem items_end (hf : fst = false) (hs : starts 93 m = true) : items (k + 1) aft fst m f = some (f, m.drop 1) := by
  rw [items, hf, hs]; rfl
theorem items_in (h : fst = true ∨ starts 93 m = false) : (!fst && starts 93 m) = false := by
  rcases h with rfl | h
  · rfl
  · rw [h, Bool.and_false]
theorem items_class (h : fst = true ∨ starts 93 m = false) (hc : classOf m = some c) : items (k + 1) aft fst m f = items k true false (m.drop 2) (join f c) := by
  rw [items, items_in h, hc]; rfl
theorem items_none (h : fst = true ∨ starts 93 m = false) (hc : classOf m = none) (ht : takeByte m = none) : items (k + 1) aft fst m f = none := by
  rw [items, items_in h, hc, ht]; rfl
theorem items_one (h : fst = true ∨ starts 93 m = false) (hc : classOf m = none) (ht : takeByte m = some (lo, r)) (ha : (!(isAlone m || (aft && starts 45 m)) && isRange r) = false) : items (k + 1) aft fst m f = items k false false r (add f lo.toNat lo.toNat) := by
  rw [items, items_in h, hc, ht]
  show (if (!(isAlone m || (aft && starts 45 m)) && isRange r) = true then _ else _) = _
  rw [ha]; rfl
theorem items_two (h : fst = true ∨ starts 93 m = false) (hc : classOf m = none) (ht : takeByte m = some (lo, r)) (ha : (!(isAlone m || (aft && starts 45 m)) && isRange r) = true) : items (k + 1) aft fst m f = (match takeByte (r.drop 1) with
    | none => none
    | some (hi, r2) => if hi < lo then none else items k false false r2 (add f lo.toNat hi.toNat)) := by
  rw [items, items_in h, hc, ht]
  show (if (!(isAlone m || (aft && starts 45 m)) && isRange r) = true then _ else _) = _
  rw [ha]; rfl
theorem range_starts {r : List UInt8} (h : isRange r = true) : starts 45 r = true := by
  unfold isRange at h
  simp at h
  exact h.1.1
end
end Rx

set_option maxRecDepth 100000 in
set_option maxHeartbeats 16000000 in
theorem items_any {w : World} {b g d : Nat} {l : List UInt8} (h : Rx.PsAt w b l g d) (n : Nat) (hn : l.length < n) :
    Calls Try.prog 55 #[.pointer (some ⟨b, 0, none⟩)] w (Rx.TookI w b (Rx.items n false true l Rx.none_) g d) := by
  have hbl := h.lt
  have HS0 := Lib.hid (Rx.ItW.start h)
  have HR0 : Hid (∃ k, l.length < k ∧ Rx.items k false true l Rx.none_ = Rx.items n false true l Rx.none_) := Lib.hid ⟨n, hn, rfl⟩
  generalize Rx.items n false true l Rx.none_ = R at *
  clear h hn
  go_enter Try.func55, Try.ntmps55
  go_wp2_with fail
  generalize (w.alloc (.cells Try.zeroCells73 73)).alloc (.cells Try.zeroCells73 73) = ws at *
  go_loopw [5, 6] (fun a f0 wr => ∃ (aft fst : Bool) (m : List UInt8) (f : Rx.St), a = .bool aft ∧ f0 = .bool fst ∧ Hid (∃ k, m.length < k ∧ Rx.items k aft fst m f = R) ∧ Hid (Rx.ItW w wr b m g d f)) (fun _ _ wr => Rx.left wr b)
  case atStart => exact ⟨false, true, l, Rx.none_, rfl, rfl, HR0, HS0⟩
  case round =>
    obtain ⟨aft, fst, m, f, rfl, rfl, HK, HS⟩ := hrel
    obtain ⟨k, HKR⟩ : ∃ k, Hid (m.length < k + 1 ∧ Rx.items (k + 1) aft fst m f = R) := by
      obtain ⟨k, h1, h2⟩ := HK.out
      obtain ⟨j, rfl⟩ : ∃ j, k = j + 1 := ⟨k - 1, by omega⟩
      exact ⟨j, Lib.hid ⟨h1, h2⟩⟩
    clear HK
    have d0 := HS.out.took.at_.c0
    have hb0 := HS.out.took.at_.lt
    have HMS := Lib.hid HS.out.left
    by_cases hend : fst = false ∧ Rx.starts 93 m = true
    · obtain ⟨hf, hs⟩ := hend
      have HR : Hid (some (f, m.drop 1) = R) := Lib.hid ((Rx.items_end hf hs).symm.trans HKR.out.2)
      have HSs := Lib.hid hs
      subst hf
      clear hs HKR
      go_wp2_with first
        | (go_at_call 20; go_must ((refine (HS.out.takes_yes HSs.out).mono ?_); rintro e w1 ⟨rfl, hs1⟩; have HS1 := Lib.hid hs1; clear hs1))
        | ((with_reducible refine Rx.ldset (Rx.cel f) (Rx.cel_size f) ?_ (HS1.out.row) ?_); (focus simp [Act.eval, Act.put]))
        | ((with_reducible refine Rx.stset (Rx.cel f) Try.zeroCells73 (Rx.cel_size f) (Rx.cel_one f) z_size ?_ ?_ (HS1.out.res) ?_); (focus simp [Act.eval, Act.put]); (focus simp [Act.eval, Act.put]))
      ((try simp only [Exit.inBlock, Exit.then]); refine bodyPost_ret (Rx.ret_set rfl _ ?_ (Rx.row_setRow HS1.out.res _) (Rx.cel_size f)) rfl ?_; (focus simp); simp only [Array.getD_eq_getD_getElem?])
      rw [← HR.out]
      exact HS1.out.yes
    have HIn : Hid (fst = true ∨ Rx.starts 93 m = false) := Lib.hid (by
      cases fst
      · right; cases hs : Rx.starts 93 m
        · rfl
        · exact absurd ⟨rfl, hs⟩ hend
      · exact .inl rfl)
    have HNo : Hid (fst = false → Rx.starts 93 m = false) := Lib.hid fun h => by
      rcases HIn.out with h1 | h1
      · rw [h] at h1; cases h1
      · exact h1
    clear hend
    by_cases hc : ∃ c, Rx.classOf m = some c
    · obtain ⟨c, hc⟩ := hc
      have hl : (m.drop 2).length < m.length := by
        cases m with
        | nil => cases hc
        | cons x r => simp; omega
      have HL := Lib.hid hl
      have HC := Lib.hid hc
      have HQ : Hid (Rx.items k true false (m.drop 2) (Rx.join f c) = R) := Lib.hid ((Rx.items_class HIn.out hc).symm.trans HKR.out.2)
      clear hl hc
      cases fst
      ·
        go_wp2_with first
          | (go_at_call 20; ((with_reducible refine (HS.out.takes_no (HNo.out rfl)).mono ?_); rintro e w1 ⟨rfl, hs1⟩; have HS1 := Lib.hid hs1; have d1 := hs1.took.at_.c0; have hb1 := hs1.took.at_.lt; clear hs1))
          | (go_at_call 49; go_must ((refine (HS1.out.class_yes HC.out).mono ?_); rintro e w2 ⟨rfl, hs2⟩; have HS2 := Lib.hid (hs2.alloc (.cells (Rx.cel c) 73)); have d2 := hs2.took.at_.c0; have hb2 := hs2.took.at_.lt; clear hs2))
          | ((with_reducible refine Rx.stset_new (Rx.cel c) _ (Rx.cel_size c) (Rx.cel_one c) z_size ?_ ?_ ?_); (focus simp [Act.eval, Act.put]); (focus simp [Act.eval, Act.put]))
          | ((with_reducible refine Rx.ldset (Rx.cel c) (Rx.cel_size c) ?_ (RowAt.new w2 _ _) ?_); (focus simp [Act.eval, Act.put]))
          | (go_at_call 63; go_must ((refine (HS2.out.join_ c).mono ?_); rintro e w3 ⟨rfl, hs3⟩; have HS3 := Lib.hid hs3; clear hs3))
        go_roundw
        case rel => exact ⟨true, false, _, _, rfl, rfl, Lib.hid ⟨k, by have := HL.out; have := HKR.out.1; omega, HQ.out⟩, HS3⟩
        case measure => rw [HMS.out, HS3.out.left]; have := HL.out; omega
      ·
        go_wp2_with first
          | (go_at_call 49; go_must ((refine (HS.out.class_yes HC.out).mono ?_); rintro e w2 ⟨rfl, hs2⟩; have HS2 := Lib.hid (hs2.alloc (.cells (Rx.cel c) 73)); have d2 := hs2.took.at_.c0; have hb2 := hs2.took.at_.lt; clear hs2))
          | ((with_reducible refine Rx.stset_new (Rx.cel c) _ (Rx.cel_size c) (Rx.cel_one c) z_size ?_ ?_ ?_); (focus simp [Act.eval, Act.put]); (focus simp [Act.eval, Act.put]))
          | ((with_reducible refine Rx.ldset (Rx.cel c) (Rx.cel_size c) ?_ (RowAt.new w2 _ _) ?_); (focus simp [Act.eval, Act.put]))
          | (go_at_call 63; go_must ((refine (HS2.out.join_ c).mono ?_); rintro e w3 ⟨rfl, hs3⟩; have HS3 := Lib.hid hs3; clear hs3))
        go_roundw
        case rel => exact ⟨true, false, _, _, rfl, rfl, Lib.hid ⟨k, by have := HL.out; have := HKR.out.1; omega, HQ.out⟩, HS3⟩
        case measure => rw [HMS.out, HS3.out.left]; have := HL.out; omega
    have HC : Hid (Rx.classOf m = none) := Lib.hid (by
      cases h : Rx.classOf m with
      | none => rfl
      | some c => exact absurd ⟨c, h⟩ hc)
    clear hc
    obtain ⟨a1, HA1⟩ : ∃ a1, Hid (Rx.isAlone m = a1) := ⟨_, Lib.hid rfl⟩
    obtain ⟨st, HST⟩ : ∃ st, Hid (Rx.starts 45 m = st) := ⟨_, Lib.hid rfl⟩
    cases ht : Rx.takeByte m with
    | none =>
      have HQ : Hid (none = R) := Lib.hid ((Rx.items_none HIn.out HC.out ht).symm.trans HKR.out.2)
      have HT := Lib.hid ht
      clear ht
      cases fst <;> cases a1 <;> cases aft
      ·
        go_wp2_with first
          | (go_at_call 20; ((with_reducible refine (HS.out.takes_no (HNo.out rfl)).mono ?_); rintro e w1 ⟨rfl, hs1⟩; have HS1 := Lib.hid hs1; have d1 := hs1.took.at_.c0; have hb1 := hs1.took.at_.lt; clear hs1))
          | (go_at_call 49; go_must ((refine (HS1.out.class_no HC.out).mono ?_); rintro e w2 ⟨c, rfl, hs2⟩; have HS2 := Lib.hid (hs2.alloc (.cells (Rx.cel c) 73)); have d2 := hs2.took.at_.c0; have hb2 := hs2.took.at_.lt; clear hs2))
          | ((with_reducible refine Rx.stset_new (Rx.cel c) _ (Rx.cel_size c) (Rx.cel_one c) z_size ?_ ?_ ?_); (focus simp [Act.eval, Act.put]); (focus simp [Act.eval, Act.put]))
          | (go_at_call 64; go_must (refine (HS2.out.alone).mono ?_; rintro e w3 ⟨rfl, hs3⟩; have HS3 := Lib.hid hs3; clear hs3; rw [HA1.out]))
          | (go_at_call 50; go_must (refine (HS3.out.byte_no HT.out).mono ?_; rintro e w4 ⟨rfl, m4, hs4⟩; have HS4 := Lib.hid hs4; clear hs4))
          | ((with_reducible refine Rx.ldset (Rx.cel f) (Rx.cel_size f) ?_ (HS4.out.row) ?_); (focus simp [Act.eval, Act.put]))
          | ((with_reducible refine Rx.stset (Rx.cel f) Try.zeroCells73 (Rx.cel_size f) (Rx.cel_one f) z_size ?_ ?_ (HS4.out.res) ?_); (focus simp [Act.eval, Act.put]); (focus simp [Act.eval, Act.put]))
        ((try simp only [Exit.inBlock, Exit.then]); refine bodyPost_ret (Rx.ret_set rfl _ ?_ (Rx.row_setRow HS4.out.res _) (Rx.cel_size f)) rfl ?_; (focus simp); simp only [Array.getD_eq_getD_getElem?])
        rw [← HQ.out]
        exact HS4.out.no
      · cases st
        ·
          go_wp2_with first
            | (go_at_call 20; ((with_reducible refine (HS.out.takes_no (HNo.out rfl)).mono ?_); rintro e w1 ⟨rfl, hs1⟩; have HS1 := Lib.hid hs1; have d1 := hs1.took.at_.c0; have hb1 := hs1.took.at_.lt; clear hs1))
            | (go_at_call 49; go_must ((refine (HS1.out.class_no HC.out).mono ?_); rintro e w2 ⟨c, rfl, hs2⟩; have HS2 := Lib.hid (hs2.alloc (.cells (Rx.cel c) 73)); have d2 := hs2.took.at_.c0; have hb2 := hs2.took.at_.lt; clear hs2))
            | ((with_reducible refine Rx.stset_new (Rx.cel c) _ (Rx.cel_size c) (Rx.cel_one c) z_size ?_ ?_ ?_); (focus simp [Act.eval, Act.put]); (focus simp [Act.eval, Act.put]))
            | (go_at_call 64; go_must (refine (HS2.out.alone).mono ?_; rintro e w3 ⟨rfl, hs3⟩; have HS3 := Lib.hid hs3; clear hs3; rw [HA1.out]))
            | (go_at_call 26; go_must (refine (HS3.out.begins 45).mono ?_; rintro e w3b ⟨rfl, rfl⟩; rw [HST.out]))
            | (go_at_call 50; go_must (refine (HS3.out.byte_no HT.out).mono ?_; rintro e w4 ⟨rfl, m4, hs4⟩; have HS4 := Lib.hid hs4; clear hs4))
            | ((with_reducible refine Rx.ldset (Rx.cel f) (Rx.cel_size f) ?_ (HS4.out.row) ?_); (focus simp [Act.eval, Act.put]))
            | ((with_reducible refine Rx.stset (Rx.cel f) Try.zeroCells73 (Rx.cel_size f) (Rx.cel_one f) z_size ?_ ?_ (HS4.out.res) ?_); (focus simp [Act.eval, Act.put]); (focus simp [Act.eval, Act.put]))
          ((try simp only [Exit.inBlock, Exit.then]); refine bodyPost_ret (Rx.ret_set rfl _ ?_ (Rx.row_setRow HS4.out.res _) (Rx.cel_size f)) rfl ?_; (focus simp); simp only [Array.getD_eq_getD_getElem?])
          rw [← HQ.out]
          exact HS4.out.no
        ·
          go_wp2_with first
            | (go_at_call 20; ((with_reducible refine (HS.out.takes_no (HNo.out rfl)).mono ?_); rintro e w1 ⟨rfl, hs1⟩; have HS1 := Lib.hid hs1; have d1 := hs1.took.at_.c0; have hb1 := hs1.took.at_.lt; clear hs1))
            | (go_at_call 49; go_must ((refine (HS1.out.class_no HC.out).mono ?_); rintro e w2 ⟨c, rfl, hs2⟩; have HS2 := Lib.hid (hs2.alloc (.cells (Rx.cel c) 73)); have d2 := hs2.took.at_.c0; have hb2 := hs2.took.at_.lt; clear hs2))
            | ((with_reducible refine Rx.stset_new (Rx.cel c) _ (Rx.cel_size c) (Rx.cel_one c) z_size ?_ ?_ ?_); (focus simp [Act.eval, Act.put]); (focus simp [Act.eval, Act.put]))
            | (go_at_call 64; go_must (refine (HS2.out.alone).mono ?_; rintro e w3 ⟨rfl, hs3⟩; have HS3 := Lib.hid hs3; clear hs3; rw [HA1.out]))
            | (go_at_call 26; go_must (refine (HS3.out.begins 45).mono ?_; rintro e w3b ⟨rfl, rfl⟩; rw [HST.out]))
            | (go_at_call 50; go_must (refine (HS3.out.byte_no HT.out).mono ?_; rintro e w4 ⟨rfl, m4, hs4⟩; have HS4 := Lib.hid hs4; clear hs4))
            | ((with_reducible refine Rx.ldset (Rx.cel f) (Rx.cel_size f) ?_ (HS4.out.row) ?_); (focus simp [Act.eval, Act.put]))
            | ((with_reducible refine Rx.stset (Rx.cel f) Try.zeroCells73 (Rx.cel_size f) (Rx.cel_one f) z_size ?_ ?_ (HS4.out.res) ?_); (focus simp [Act.eval, Act.put]); (focus simp [Act.eval, Act.put]))
          ((try simp only [Exit.inBlock, Exit.then]); refine bodyPost_ret (Rx.ret_set rfl _ ?_ (Rx.row_setRow HS4.out.res _) (Rx.cel_size f)) rfl ?_; (focus simp); simp only [Array.getD_eq_getD_getElem?])
          rw [← HQ.out]
          exact HS4.out.no
      ·
        go_wp2_with first
          | (go_at_call 20; ((with_reducible refine (HS.out.takes_no (HNo.out rfl)).mono ?_); rintro e w1 ⟨rfl, hs1⟩; have HS1 := Lib.hid hs1; have d1 := hs1.took.at_.c0; have hb1 := hs1.took.at_.lt; clear hs1))
          | (go_at_call 49; go_must ((refine (HS1.out.class_no HC.out).mono ?_); rintro e w2 ⟨c, rfl, hs2⟩; have HS2 := Lib.hid (hs2.alloc (.cells (Rx.cel c) 73)); have d2 := hs2.took.at_.c0; have hb2 := hs2.took.at_.lt; clear hs2))
          | ((with_reducible refine Rx.stset_new (Rx.cel c) _ (Rx.cel_size c) (Rx.cel_one c) z_size ?_ ?_ ?_); (focus simp [Act.eval, Act.put]); (focus simp [Act.eval, Act.put]))
          | (go_at_call 64; go_must (refine (HS2.out.alone).mono ?_; rintro e w3 ⟨rfl, hs3⟩; have HS3 := Lib.hid hs3; clear hs3; rw [HA1.out]))
          | (go_at_call 50; go_must (refine (HS3.out.byte_no HT.out).mono ?_; rintro e w4 ⟨rfl, m4, hs4⟩; have HS4 := Lib.hid hs4; clear hs4))
          | ((with_reducible refine Rx.ldset (Rx.cel f) (Rx.cel_size f) ?_ (HS4.out.row) ?_); (focus simp [Act.eval, Act.put]))
          | ((with_reducible refine Rx.stset (Rx.cel f) Try.zeroCells73 (Rx.cel_size f) (Rx.cel_one f) z_size ?_ ?_ (HS4.out.res) ?_); (focus simp [Act.eval, Act.put]); (focus simp [Act.eval, Act.put]))
        ((try simp only [Exit.inBlock, Exit.then]); refine bodyPost_ret (Rx.ret_set rfl _ ?_ (Rx.row_setRow HS4.out.res _) (Rx.cel_size f)) rfl ?_; (focus simp); simp only [Array.getD_eq_getD_getElem?])
        rw [← HQ.out]
        exact HS4.out.no
      ·
        go_wp2_with first
          | (go_at_call 20; ((with_reducible refine (HS.out.takes_no (HNo.out rfl)).mono ?_); rintro e w1 ⟨rfl, hs1⟩; have HS1 := Lib.hid hs1; have d1 := hs1.took.at_.c0; have hb1 := hs1.took.at_.lt; clear hs1))
          | (go_at_call 49; go_must ((refine (HS1.out.class_no HC.out).mono ?_); rintro e w2 ⟨c, rfl, hs2⟩; have HS2 := Lib.hid (hs2.alloc (.cells (Rx.cel c) 73)); have d2 := hs2.took.at_.c0; have hb2 := hs2.took.at_.lt; clear hs2))
          | ((with_reducible refine Rx.stset_new (Rx.cel c) _ (Rx.cel_size c) (Rx.cel_one c) z_size ?_ ?_ ?_); (focus simp [Act.eval, Act.put]); (focus simp [Act.eval, Act.put]))
          | (go_at_call 64; go_must (refine (HS2.out.alone).mono ?_; rintro e w3 ⟨rfl, hs3⟩; have HS3 := Lib.hid hs3; clear hs3; rw [HA1.out]))
          | (go_at_call 50; go_must (refine (HS3.out.byte_no HT.out).mono ?_; rintro e w4 ⟨rfl, m4, hs4⟩; have HS4 := Lib.hid hs4; clear hs4))
          | ((with_reducible refine Rx.ldset (Rx.cel f) (Rx.cel_size f) ?_ (HS4.out.row) ?_); (focus simp [Act.eval, Act.put]))
          | ((with_reducible refine Rx.stset (Rx.cel f) Try.zeroCells73 (Rx.cel_size f) (Rx.cel_one f) z_size ?_ ?_ (HS4.out.res) ?_); (focus simp [Act.eval, Act.put]); (focus simp [Act.eval, Act.put]))
        ((try simp only [Exit.inBlock, Exit.then]); refine bodyPost_ret (Rx.ret_set rfl _ ?_ (Rx.row_setRow HS4.out.res _) (Rx.cel_size f)) rfl ?_; (focus simp); simp only [Array.getD_eq_getD_getElem?])
        rw [← HQ.out]
        exact HS4.out.no
      ·
        go_wp2_with first
          | (go_at_call 49; go_must ((refine (HS.out.class_no HC.out).mono ?_); rintro e w2 ⟨c, rfl, hs2⟩; have HS2 := Lib.hid (hs2.alloc (.cells (Rx.cel c) 73)); have d2 := hs2.took.at_.c0; have hb2 := hs2.took.at_.lt; clear hs2))
          | ((with_reducible refine Rx.stset_new (Rx.cel c) _ (Rx.cel_size c) (Rx.cel_one c) z_size ?_ ?_ ?_); (focus simp [Act.eval, Act.put]); (focus simp [Act.eval, Act.put]))
          | (go_at_call 64; go_must (refine (HS2.out.alone).mono ?_; rintro e w3 ⟨rfl, hs3⟩; have HS3 := Lib.hid hs3; clear hs3; rw [HA1.out]))
          | (go_at_call 50; go_must (refine (HS3.out.byte_no HT.out).mono ?_; rintro e w4 ⟨rfl, m4, hs4⟩; have HS4 := Lib.hid hs4; clear hs4))
          | ((with_reducible refine Rx.ldset (Rx.cel f) (Rx.cel_size f) ?_ (HS4.out.row) ?_); (focus simp [Act.eval, Act.put]))
          | ((with_reducible refine Rx.stset (Rx.cel f) Try.zeroCells73 (Rx.cel_size f) (Rx.cel_one f) z_size ?_ ?_ (HS4.out.res) ?_); (focus simp [Act.eval, Act.put]); (focus simp [Act.eval, Act.put]))
        ((try simp only [Exit.inBlock, Exit.then]); refine bodyPost_ret (Rx.ret_set rfl _ ?_ (Rx.row_setRow HS4.out.res _) (Rx.cel_size f)) rfl ?_; (focus simp); simp only [Array.getD_eq_getD_getElem?])
        rw [← HQ.out]
        exact HS4.out.no
      · cases st
        ·
          go_wp2_with first
            | (go_at_call 49; go_must ((refine (HS.out.class_no HC.out).mono ?_); rintro e w2 ⟨c, rfl, hs2⟩; have HS2 := Lib.hid (hs2.alloc (.cells (Rx.cel c) 73)); have d2 := hs2.took.at_.c0; have hb2 := hs2.took.at_.lt; clear hs2))
            | ((with_reducible refine Rx.stset_new (Rx.cel c) _ (Rx.cel_size c) (Rx.cel_one c) z_size ?_ ?_ ?_); (focus simp [Act.eval, Act.put]); (focus simp [Act.eval, Act.put]))
            | (go_at_call 64; go_must (refine (HS2.out.alone).mono ?_; rintro e w3 ⟨rfl, hs3⟩; have HS3 := Lib.hid hs3; clear hs3; rw [HA1.out]))
            | (go_at_call 26; go_must (refine (HS3.out.begins 45).mono ?_; rintro e w3b ⟨rfl, rfl⟩; rw [HST.out]))
            | (go_at_call 50; go_must (refine (HS3.out.byte_no HT.out).mono ?_; rintro e w4 ⟨rfl, m4, hs4⟩; have HS4 := Lib.hid hs4; clear hs4))
            | ((with_reducible refine Rx.ldset (Rx.cel f) (Rx.cel_size f) ?_ (HS4.out.row) ?_); (focus simp [Act.eval, Act.put]))
            | ((with_reducible refine Rx.stset (Rx.cel f) Try.zeroCells73 (Rx.cel_size f) (Rx.cel_one f) z_size ?_ ?_ (HS4.out.res) ?_); (focus simp [Act.eval, Act.put]); (focus simp [Act.eval, Act.put]))
          ((try simp only [Exit.inBlock, Exit.then]); refine bodyPost_ret (Rx.ret_set rfl _ ?_ (Rx.row_setRow HS4.out.res _) (Rx.cel_size f)) rfl ?_; (focus simp); simp only [Array.getD_eq_getD_getElem?])
          rw [← HQ.out]
          exact HS4.out.no
        ·
          go_wp2_with first
            | (go_at_call 49; go_must ((refine (HS.out.class_no HC.out).mono ?_); rintro e w2 ⟨c, rfl, hs2⟩; have HS2 := Lib.hid (hs2.alloc (.cells (Rx.cel c) 73)); have d2 := hs2.took.at_.c0; have hb2 := hs2.took.at_.lt; clear hs2))
            | ((with_reducible refine Rx.stset_new (Rx.cel c) _ (Rx.cel_size c) (Rx.cel_one c) z_size ?_ ?_ ?_); (focus simp [Act.eval, Act.put]); (focus simp [Act.eval, Act.put]))
            | (go_at_call 64; go_must (refine (HS2.out.alone).mono ?_; rintro e w3 ⟨rfl, hs3⟩; have HS3 := Lib.hid hs3; clear hs3; rw [HA1.out]))
            | (go_at_call 26; go_must (refine (HS3.out.begins 45).mono ?_; rintro e w3b ⟨rfl, rfl⟩; rw [HST.out]))
            | (go_at_call 50; go_must (refine (HS3.out.byte_no HT.out).mono ?_; rintro e w4 ⟨rfl, m4, hs4⟩; have HS4 := Lib.hid hs4; clear hs4))
            | ((with_reducible refine Rx.ldset (Rx.cel f) (Rx.cel_size f) ?_ (HS4.out.row) ?_); (focus simp [Act.eval, Act.put]))
            | ((with_reducible refine Rx.stset (Rx.cel f) Try.zeroCells73 (Rx.cel_size f) (Rx.cel_one f) z_size ?_ ?_ (HS4.out.res) ?_); (focus simp [Act.eval, Act.put]); (focus simp [Act.eval, Act.put]))
          ((try simp only [Exit.inBlock, Exit.then]); refine bodyPost_ret (Rx.ret_set rfl _ ?_ (Rx.row_setRow HS4.out.res _) (Rx.cel_size f)) rfl ?_; (focus simp); simp only [Array.getD_eq_getD_getElem?])
          rw [← HQ.out]
          exact HS4.out.no
      ·
        go_wp2_with first
          | (go_at_call 49; go_must ((refine (HS.out.class_no HC.out).mono ?_); rintro e w2 ⟨c, rfl, hs2⟩; have HS2 := Lib.hid (hs2.alloc (.cells (Rx.cel c) 73)); have d2 := hs2.took.at_.c0; have hb2 := hs2.took.at_.lt; clear hs2))
          | ((with_reducible refine Rx.stset_new (Rx.cel c) _ (Rx.cel_size c) (Rx.cel_one c) z_size ?_ ?_ ?_); (focus simp [Act.eval, Act.put]); (focus simp [Act.eval, Act.put]))
          | (go_at_call 64; go_must (refine (HS2.out.alone).mono ?_; rintro e w3 ⟨rfl, hs3⟩; have HS3 := Lib.hid hs3; clear hs3; rw [HA1.out]))
          | (go_at_call 50; go_must (refine (HS3.out.byte_no HT.out).mono ?_; rintro e w4 ⟨rfl, m4, hs4⟩; have HS4 := Lib.hid hs4; clear hs4))
          | ((with_reducible refine Rx.ldset (Rx.cel f) (Rx.cel_size f) ?_ (HS4.out.row) ?_); (focus simp [Act.eval, Act.put]))
          | ((with_reducible refine Rx.stset (Rx.cel f) Try.zeroCells73 (Rx.cel_size f) (Rx.cel_one f) z_size ?_ ?_ (HS4.out.res) ?_); (focus simp [Act.eval, Act.put]); (focus simp [Act.eval, Act.put]))
        ((try simp only [Exit.inBlock, Exit.then]); refine bodyPost_ret (Rx.ret_set rfl _ ?_ (Rx.row_setRow HS4.out.res _) (Rx.cel_size f)) rfl ?_; (focus simp); simp only [Array.getD_eq_getD_getElem?])
        rw [← HQ.out]
        exact HS4.out.no
      ·
        go_wp2_with first
          | (go_at_call 49; go_must ((refine (HS.out.class_no HC.out).mono ?_); rintro e w2 ⟨c, rfl, hs2⟩; have HS2 := Lib.hid (hs2.alloc (.cells (Rx.cel c) 73)); have d2 := hs2.took.at_.c0; have hb2 := hs2.took.at_.lt; clear hs2))
          | ((with_reducible refine Rx.stset_new (Rx.cel c) _ (Rx.cel_size c) (Rx.cel_one c) z_size ?_ ?_ ?_); (focus simp [Act.eval, Act.put]); (focus simp [Act.eval, Act.put]))
          | (go_at_call 64; go_must (refine (HS2.out.alone).mono ?_; rintro e w3 ⟨rfl, hs3⟩; have HS3 := Lib.hid hs3; clear hs3; rw [HA1.out]))
          | (go_at_call 50; go_must (refine (HS3.out.byte_no HT.out).mono ?_; rintro e w4 ⟨rfl, m4, hs4⟩; have HS4 := Lib.hid hs4; clear hs4))
          | ((with_reducible refine Rx.ldset (Rx.cel f) (Rx.cel_size f) ?_ (HS4.out.row) ?_); (focus simp [Act.eval, Act.put]))
          | ((with_reducible refine Rx.stset (Rx.cel f) Try.zeroCells73 (Rx.cel_size f) (Rx.cel_one f) z_size ?_ ?_ (HS4.out.res) ?_); (focus simp [Act.eval, Act.put]); (focus simp [Act.eval, Act.put]))
        ((try simp only [Exit.inBlock, Exit.then]); refine bodyPost_ret (Rx.ret_set rfl _ ?_ (Rx.row_setRow HS4.out.res _) (Rx.cel_size f)) rfl ?_; (focus simp); simp only [Array.getD_eq_getD_getElem?])
        rw [← HQ.out]
        exact HS4.out.no
    | some x =>
      obtain ⟨lo, r⟩ := x
      have HT := Lib.hid ht
      have HL : Hid (r.length < m.length) := Lib.hid (Rx.takeByte_len ht)
      clear ht
      cases hal : (!(Rx.isAlone m || (aft && Rx.starts 45 m)) && Rx.isRange r)
      · have HQ : Hid (Rx.items k false false r (Rx.add f lo.toNat lo.toNat) = R) := Lib.hid ((Rx.items_one HIn.out HC.out HT.out hal).symm.trans HKR.out.2)
        have HAl := Lib.hid hal
        clear hal
        cases fst <;> cases a1 <;> cases aft
        ·
          have HRg : Hid (Rx.isRange r = false) := Lib.hid (by have := HAl.out; rw [HA1.out] at this; simpa using this)
          go_wp2_with first
            | (go_at_call 20; ((with_reducible refine (HS.out.takes_no (HNo.out rfl)).mono ?_); rintro e w1 ⟨rfl, hs1⟩; have HS1 := Lib.hid hs1; have d1 := hs1.took.at_.c0; have hb1 := hs1.took.at_.lt; clear hs1))
            | (go_at_call 49; go_must ((refine (HS1.out.class_no HC.out).mono ?_); rintro e w2 ⟨c, rfl, hs2⟩; have HS2 := Lib.hid (hs2.alloc (.cells (Rx.cel c) 73)); have d2 := hs2.took.at_.c0; have hb2 := hs2.took.at_.lt; clear hs2))
            | ((with_reducible refine Rx.stset_new (Rx.cel c) _ (Rx.cel_size c) (Rx.cel_one c) z_size ?_ ?_ ?_); (focus simp [Act.eval, Act.put]); (focus simp [Act.eval, Act.put]))
            | (go_at_call 64; go_must (refine (HS2.out.alone).mono ?_; rintro e w3 ⟨rfl, hs3⟩; have HS3 := Lib.hid hs3; clear hs3; rw [HA1.out]))
            | (go_at_call 50; ((with_reducible refine (HS3.out.byte_yes HT.out).mono ?_); rintro e w4 ⟨rfl, hs4⟩; have HS4 := Lib.hid hs4; clear hs4))
            | (go_at_call 65; go_must (refine (HS4.out.range).mono ?_; rintro e w5 ⟨rfl, hs5⟩; have HS5 := Lib.hid hs5; clear hs5; rw [HRg.out]))
            | (go_at_call 46; go_must (refine (HS5.out.add_ lo lo).mono ?_; rintro e w9 ⟨rfl, hs9⟩; have HS9 := Lib.hid hs9; clear hs9))
          go_roundw
          case rel => exact ⟨false, false, _, _, rfl, rfl, Lib.hid ⟨k, by have := HL.out; have := HKR.out.1; omega, HQ.out⟩, HS9⟩
          case measure => rw [HMS.out, HS9.out.left]; have := HL.out; omega
        · cases st
          ·
            have HRg : Hid (Rx.isRange r = false) := Lib.hid (by have := HAl.out; rw [HA1.out, HST.out] at this; simpa using this)
            go_wp2_with first
              | (go_at_call 20; ((with_reducible refine (HS.out.takes_no (HNo.out rfl)).mono ?_); rintro e w1 ⟨rfl, hs1⟩; have HS1 := Lib.hid hs1; have d1 := hs1.took.at_.c0; have hb1 := hs1.took.at_.lt; clear hs1))
              | (go_at_call 49; go_must ((refine (HS1.out.class_no HC.out).mono ?_); rintro e w2 ⟨c, rfl, hs2⟩; have HS2 := Lib.hid (hs2.alloc (.cells (Rx.cel c) 73)); have d2 := hs2.took.at_.c0; have hb2 := hs2.took.at_.lt; clear hs2))
              | ((with_reducible refine Rx.stset_new (Rx.cel c) _ (Rx.cel_size c) (Rx.cel_one c) z_size ?_ ?_ ?_); (focus simp [Act.eval, Act.put]); (focus simp [Act.eval, Act.put]))
              | (go_at_call 64; go_must (refine (HS2.out.alone).mono ?_; rintro e w3 ⟨rfl, hs3⟩; have HS3 := Lib.hid hs3; clear hs3; rw [HA1.out]))
              | (go_at_call 26; go_must (refine (HS3.out.begins 45).mono ?_; rintro e w3b ⟨rfl, rfl⟩; rw [HST.out]))
              | (go_at_call 50; ((with_reducible refine (HS3.out.byte_yes HT.out).mono ?_); rintro e w4 ⟨rfl, hs4⟩; have HS4 := Lib.hid hs4; clear hs4))
              | (go_at_call 65; go_must (refine (HS4.out.range).mono ?_; rintro e w5 ⟨rfl, hs5⟩; have HS5 := Lib.hid hs5; clear hs5; rw [HRg.out]))
              | (go_at_call 46; go_must (refine (HS5.out.add_ lo lo).mono ?_; rintro e w9 ⟨rfl, hs9⟩; have HS9 := Lib.hid hs9; clear hs9))
            go_roundw
            case rel => exact ⟨false, false, _, _, rfl, rfl, Lib.hid ⟨k, by have := HL.out; have := HKR.out.1; omega, HQ.out⟩, HS9⟩
            case measure => rw [HMS.out, HS9.out.left]; have := HL.out; omega
          ·
            go_wp2_with first
              | (go_at_call 20; ((with_reducible refine (HS.out.takes_no (HNo.out rfl)).mono ?_); rintro e w1 ⟨rfl, hs1⟩; have HS1 := Lib.hid hs1; have d1 := hs1.took.at_.c0; have hb1 := hs1.took.at_.lt; clear hs1))
              | (go_at_call 49; go_must ((refine (HS1.out.class_no HC.out).mono ?_); rintro e w2 ⟨c, rfl, hs2⟩; have HS2 := Lib.hid (hs2.alloc (.cells (Rx.cel c) 73)); have d2 := hs2.took.at_.c0; have hb2 := hs2.took.at_.lt; clear hs2))
              | ((with_reducible refine Rx.stset_new (Rx.cel c) _ (Rx.cel_size c) (Rx.cel_one c) z_size ?_ ?_ ?_); (focus simp [Act.eval, Act.put]); (focus simp [Act.eval, Act.put]))
              | (go_at_call 64; go_must (refine (HS2.out.alone).mono ?_; rintro e w3 ⟨rfl, hs3⟩; have HS3 := Lib.hid hs3; clear hs3; rw [HA1.out]))
              | (go_at_call 26; go_must (refine (HS3.out.begins 45).mono ?_; rintro e w3b ⟨rfl, rfl⟩; rw [HST.out]))
              | (go_at_call 50; ((with_reducible refine (HS3.out.byte_yes HT.out).mono ?_); rintro e w4 ⟨rfl, hs4⟩; have HS4 := Lib.hid hs4; clear hs4))
              | (go_at_call 46; go_must (refine (HS4.out.add_ lo lo).mono ?_; rintro e w9 ⟨rfl, hs9⟩; have HS9 := Lib.hid hs9; clear hs9))
            go_roundw
            case rel => exact ⟨false, false, _, _, rfl, rfl, Lib.hid ⟨k, by have := HL.out; have := HKR.out.1; omega, HQ.out⟩, HS9⟩
            case measure => rw [HMS.out, HS9.out.left]; have := HL.out; omega
        ·
          go_wp2_with first
            | (go_at_call 20; ((with_reducible refine (HS.out.takes_no (HNo.out rfl)).mono ?_); rintro e w1 ⟨rfl, hs1⟩; have HS1 := Lib.hid hs1; have d1 := hs1.took.at_.c0; have hb1 := hs1.took.at_.lt; clear hs1))
            | (go_at_call 49; go_must ((refine (HS1.out.class_no HC.out).mono ?_); rintro e w2 ⟨c, rfl, hs2⟩; have HS2 := Lib.hid (hs2.alloc (.cells (Rx.cel c) 73)); have d2 := hs2.took.at_.c0; have hb2 := hs2.took.at_.lt; clear hs2))
            | ((with_reducible refine Rx.stset_new (Rx.cel c) _ (Rx.cel_size c) (Rx.cel_one c) z_size ?_ ?_ ?_); (focus simp [Act.eval, Act.put]); (focus simp [Act.eval, Act.put]))
            | (go_at_call 64; go_must (refine (HS2.out.alone).mono ?_; rintro e w3 ⟨rfl, hs3⟩; have HS3 := Lib.hid hs3; clear hs3; rw [HA1.out]))
            | (go_at_call 50; ((with_reducible refine (HS3.out.byte_yes HT.out).mono ?_); rintro e w4 ⟨rfl, hs4⟩; have HS4 := Lib.hid hs4; clear hs4))
            | (go_at_call 46; go_must (refine (HS4.out.add_ lo lo).mono ?_; rintro e w9 ⟨rfl, hs9⟩; have HS9 := Lib.hid hs9; clear hs9))
          go_roundw
          case rel => exact ⟨false, false, _, _, rfl, rfl, Lib.hid ⟨k, by have := HL.out; have := HKR.out.1; omega, HQ.out⟩, HS9⟩
          case measure => rw [HMS.out, HS9.out.left]; have := HL.out; omega
        ·
          go_wp2_with first
            | (go_at_call 20; ((with_reducible refine (HS.out.takes_no (HNo.out rfl)).mono ?_); rintro e w1 ⟨rfl, hs1⟩; have HS1 := Lib.hid hs1; have d1 := hs1.took.at_.c0; have hb1 := hs1.took.at_.lt; clear hs1))
            | (go_at_call 49; go_must ((refine (HS1.out.class_no HC.out).mono ?_); rintro e w2 ⟨c, rfl, hs2⟩; have HS2 := Lib.hid (hs2.alloc (.cells (Rx.cel c) 73)); have d2 := hs2.took.at_.c0; have hb2 := hs2.took.at_.lt; clear hs2))
            | ((with_reducible refine Rx.stset_new (Rx.cel c) _ (Rx.cel_size c) (Rx.cel_one c) z_size ?_ ?_ ?_); (focus simp [Act.eval, Act.put]); (focus simp [Act.eval, Act.put]))
            | (go_at_call 64; go_must (refine (HS2.out.alone).mono ?_; rintro e w3 ⟨rfl, hs3⟩; have HS3 := Lib.hid hs3; clear hs3; rw [HA1.out]))
            | (go_at_call 50; ((with_reducible refine (HS3.out.byte_yes HT.out).mono ?_); rintro e w4 ⟨rfl, hs4⟩; have HS4 := Lib.hid hs4; clear hs4))
            | (go_at_call 46; go_must (refine (HS4.out.add_ lo lo).mono ?_; rintro e w9 ⟨rfl, hs9⟩; have HS9 := Lib.hid hs9; clear hs9))
          go_roundw
          case rel => exact ⟨false, false, _, _, rfl, rfl, Lib.hid ⟨k, by have := HL.out; have := HKR.out.1; omega, HQ.out⟩, HS9⟩
          case measure => rw [HMS.out, HS9.out.left]; have := HL.out; omega
        ·
          have HRg : Hid (Rx.isRange r = false) := Lib.hid (by have := HAl.out; rw [HA1.out] at this; simpa using this)
          go_wp2_with first
            | (go_at_call 49; go_must ((refine (HS.out.class_no HC.out).mono ?_); rintro e w2 ⟨c, rfl, hs2⟩; have HS2 := Lib.hid (hs2.alloc (.cells (Rx.cel c) 73)); have d2 := hs2.took.at_.c0; have hb2 := hs2.took.at_.lt; clear hs2))
            | ((with_reducible refine Rx.stset_new (Rx.cel c) _ (Rx.cel_size c) (Rx.cel_one c) z_size ?_ ?_ ?_); (focus simp [Act.eval, Act.put]); (focus simp [Act.eval, Act.put]))
            | (go_at_call 64; go_must (refine (HS2.out.alone).mono ?_; rintro e w3 ⟨rfl, hs3⟩; have HS3 := Lib.hid hs3; clear hs3; rw [HA1.out]))
            | (go_at_call 50; ((with_reducible refine (HS3.out.byte_yes HT.out).mono ?_); rintro e w4 ⟨rfl, hs4⟩; have HS4 := Lib.hid hs4; clear hs4))
            | (go_at_call 65; go_must (refine (HS4.out.range).mono ?_; rintro e w5 ⟨rfl, hs5⟩; have HS5 := Lib.hid hs5; clear hs5; rw [HRg.out]))
            | (go_at_call 46; go_must (refine (HS5.out.add_ lo lo).mono ?_; rintro e w9 ⟨rfl, hs9⟩; have HS9 := Lib.hid hs9; clear hs9))
          go_roundw
          case rel => exact ⟨false, false, _, _, rfl, rfl, Lib.hid ⟨k, by have := HL.out; have := HKR.out.1; omega, HQ.out⟩, HS9⟩
          case measure => rw [HMS.out, HS9.out.left]; have := HL.out; omega
        · cases st
          ·
            have HRg : Hid (Rx.isRange r = false) := Lib.hid (by have := HAl.out; rw [HA1.out, HST.out] at this; simpa using this)
            go_wp2_with first
              | (go_at_call 49; go_must ((refine (HS.out.class_no HC.out).mono ?_); rintro e w2 ⟨c, rfl, hs2⟩; have HS2 := Lib.hid (hs2.alloc (.cells (Rx.cel c) 73)); have d2 := hs2.took.at_.c0; have hb2 := hs2.took.at_.lt; clear hs2))
              | ((with_reducible refine Rx.stset_new (Rx.cel c) _ (Rx.cel_size c) (Rx.cel_one c) z_size ?_ ?_ ?_); (focus simp [Act.eval, Act.put]); (focus simp [Act.eval, Act.put]))
              | (go_at_call 64; go_must (refine (HS2.out.alone).mono ?_; rintro e w3 ⟨rfl, hs3⟩; have HS3 := Lib.hid hs3; clear hs3; rw [HA1.out]))
              | (go_at_call 26; go_must (refine (HS3.out.begins 45).mono ?_; rintro e w3b ⟨rfl, rfl⟩; rw [HST.out]))
              | (go_at_call 50; ((with_reducible refine (HS3.out.byte_yes HT.out).mono ?_); rintro e w4 ⟨rfl, hs4⟩; have HS4 := Lib.hid hs4; clear hs4))
              | (go_at_call 65; go_must (refine (HS4.out.range).mono ?_; rintro e w5 ⟨rfl, hs5⟩; have HS5 := Lib.hid hs5; clear hs5; rw [HRg.out]))
              | (go_at_call 46; go_must (refine (HS5.out.add_ lo lo).mono ?_; rintro e w9 ⟨rfl, hs9⟩; have HS9 := Lib.hid hs9; clear hs9))
            go_roundw
            case rel => exact ⟨false, false, _, _, rfl, rfl, Lib.hid ⟨k, by have := HL.out; have := HKR.out.1; omega, HQ.out⟩, HS9⟩
            case measure => rw [HMS.out, HS9.out.left]; have := HL.out; omega
          ·
            go_wp2_with first
              | (go_at_call 49; go_must ((refine (HS.out.class_no HC.out).mono ?_); rintro e w2 ⟨c, rfl, hs2⟩; have HS2 := Lib.hid (hs2.alloc (.cells (Rx.cel c) 73)); have d2 := hs2.took.at_.c0; have hb2 := hs2.took.at_.lt; clear hs2))
              | ((with_reducible refine Rx.stset_new (Rx.cel c) _ (Rx.cel_size c) (Rx.cel_one c) z_size ?_ ?_ ?_); (focus simp [Act.eval, Act.put]); (focus simp [Act.eval, Act.put]))
              | (go_at_call 64; go_must (refine (HS2.out.alone).mono ?_; rintro e w3 ⟨rfl, hs3⟩; have HS3 := Lib.hid hs3; clear hs3; rw [HA1.out]))
              | (go_at_call 26; go_must (refine (HS3.out.begins 45).mono ?_; rintro e w3b ⟨rfl, rfl⟩; rw [HST.out]))
              | (go_at_call 50; ((with_reducible refine (HS3.out.byte_yes HT.out).mono ?_); rintro e w4 ⟨rfl, hs4⟩; have HS4 := Lib.hid hs4; clear hs4))
              | (go_at_call 46; go_must (refine (HS4.out.add_ lo lo).mono ?_; rintro e w9 ⟨rfl, hs9⟩; have HS9 := Lib.hid hs9; clear hs9))
            go_roundw
            case rel => exact ⟨false, false, _, _, rfl, rfl, Lib.hid ⟨k, by have := HL.out; have := HKR.out.1; omega, HQ.out⟩, HS9⟩
            case measure => rw [HMS.out, HS9.out.left]; have := HL.out; omega
        ·
          go_wp2_with first
            | (go_at_call 49; go_must ((refine (HS.out.class_no HC.out).mono ?_); rintro e w2 ⟨c, rfl, hs2⟩; have HS2 := Lib.hid (hs2.alloc (.cells (Rx.cel c) 73)); have d2 := hs2.took.at_.c0; have hb2 := hs2.took.at_.lt; clear hs2))
            | ((with_reducible refine Rx.stset_new (Rx.cel c) _ (Rx.cel_size c) (Rx.cel_one c) z_size ?_ ?_ ?_); (focus simp [Act.eval, Act.put]); (focus simp [Act.eval, Act.put]))
            | (go_at_call 64; go_must (refine (HS2.out.alone).mono ?_; rintro e w3 ⟨rfl, hs3⟩; have HS3 := Lib.hid hs3; clear hs3; rw [HA1.out]))
            | (go_at_call 50; ((with_reducible refine (HS3.out.byte_yes HT.out).mono ?_); rintro e w4 ⟨rfl, hs4⟩; have HS4 := Lib.hid hs4; clear hs4))
            | (go_at_call 46; go_must (refine (HS4.out.add_ lo lo).mono ?_; rintro e w9 ⟨rfl, hs9⟩; have HS9 := Lib.hid hs9; clear hs9))
          go_roundw
          case rel => exact ⟨false, false, _, _, rfl, rfl, Lib.hid ⟨k, by have := HL.out; have := HKR.out.1; omega, HQ.out⟩, HS9⟩
          case measure => rw [HMS.out, HS9.out.left]; have := HL.out; omega
        ·
          go_wp2_with first
            | (go_at_call 49; go_must ((refine (HS.out.class_no HC.out).mono ?_); rintro e w2 ⟨c, rfl, hs2⟩; have HS2 := Lib.hid (hs2.alloc (.cells (Rx.cel c) 73)); have d2 := hs2.took.at_.c0; have hb2 := hs2.took.at_.lt; clear hs2))
            | ((with_reducible refine Rx.stset_new (Rx.cel c) _ (Rx.cel_size c) (Rx.cel_one c) z_size ?_ ?_ ?_); (focus simp [Act.eval, Act.put]); (focus simp [Act.eval, Act.put]))
            | (go_at_call 64; go_must (refine (HS2.out.alone).mono ?_; rintro e w3 ⟨rfl, hs3⟩; have HS3 := Lib.hid hs3; clear hs3; rw [HA1.out]))
            | (go_at_call 50; ((with_reducible refine (HS3.out.byte_yes HT.out).mono ?_); rintro e w4 ⟨rfl, hs4⟩; have HS4 := Lib.hid hs4; clear hs4))
            | (go_at_call 46; go_must (refine (HS4.out.add_ lo lo).mono ?_; rintro e w9 ⟨rfl, hs9⟩; have HS9 := Lib.hid hs9; clear hs9))
          go_roundw
          case rel => exact ⟨false, false, _, _, rfl, rfl, Lib.hid ⟨k, by have := HL.out; have := HKR.out.1; omega, HQ.out⟩, HS9⟩
          case measure => rw [HMS.out, HS9.out.left]; have := HL.out; omega
      · have HQ := Lib.hid ((Rx.items_two HIn.out HC.out HT.out hal).symm.trans HKR.out.2)
        have HRg : Hid (Rx.isRange r = true) := Lib.hid (by cases h : Rx.isRange r; rw [h, Bool.and_false] at hal; cases hal; rfl)
        have HAl : Hid ((Rx.isAlone m || (aft && Rx.starts 45 m)) = false) := Lib.hid (by cases h : (Rx.isAlone m || (aft && Rx.starts 45 m)); rfl; rw [h] at hal; cases hal)
        have HA2 : Hid (a1 = false) := Lib.hid (by have := HAl.out; rw [HA1.out] at this; cases a1; rfl; cases this)
        clear hal
        cases ht2 : Rx.takeByte (r.drop 1) with
        | none =>
          rw [ht2] at HQ
          have HQ2 : Hid (none = R) := HQ
          have HT2 := Lib.hid ht2
          clear ht2 HQ
          cases fst <;> cases aft
          ·
            have ha1 := HA2.out
            subst ha1
            go_wp2_with first
              | (go_at_call 20; ((with_reducible refine (HS.out.takes_no (HNo.out rfl)).mono ?_); rintro e w1 ⟨rfl, hs1⟩; have HS1 := Lib.hid hs1; have d1 := hs1.took.at_.c0; have hb1 := hs1.took.at_.lt; clear hs1))
              | (go_at_call 49; go_must ((refine (HS1.out.class_no HC.out).mono ?_); rintro e w2 ⟨c, rfl, hs2⟩; have HS2 := Lib.hid (hs2.alloc (.cells (Rx.cel c) 73)); have d2 := hs2.took.at_.c0; have hb2 := hs2.took.at_.lt; clear hs2))
              | ((with_reducible refine Rx.stset_new (Rx.cel c) _ (Rx.cel_size c) (Rx.cel_one c) z_size ?_ ?_ ?_); (focus simp [Act.eval, Act.put]); (focus simp [Act.eval, Act.put]))
              | (go_at_call 64; go_must (refine (HS2.out.alone).mono ?_; rintro e w3 ⟨rfl, hs3⟩; have HS3 := Lib.hid hs3; clear hs3; rw [HA1.out]))
              | (go_at_call 50; ((with_reducible refine (HS3.out.byte_yes HT.out).mono ?_); rintro e w4 ⟨rfl, hs4⟩; have HS4 := Lib.hid hs4; clear hs4))
              | (go_at_call 65; go_must (refine (HS4.out.range).mono ?_; rintro e w5 ⟨rfl, hs5⟩; have HS5 := Lib.hid hs5; clear hs5; rw [HRg.out]))
              | (go_at_call 20; ((with_reducible refine (HS5.out.takes_yes (Rx.range_starts HRg.out)).mono ?_); rintro e w6 ⟨rfl, hs6⟩; have HS6 := Lib.hid hs6; clear hs6))
              | (go_at_call 50; ((with_reducible refine (HS6.out.byte_no HT2.out).mono ?_); rintro e w7 ⟨rfl, m7, hs7⟩; have HS7 := Lib.hid hs7; clear hs7))
              | ((with_reducible refine Rx.ldset (Rx.cel f) (Rx.cel_size f) ?_ (HS7.out.row) ?_); (focus simp [Act.eval, Act.put]))
              | ((with_reducible refine Rx.stset (Rx.cel f) Try.zeroCells73 (Rx.cel_size f) (Rx.cel_one f) z_size ?_ ?_ (HS7.out.res) ?_); (focus simp [Act.eval, Act.put]); (focus simp [Act.eval, Act.put]))
            ((try simp only [Exit.inBlock, Exit.then]); refine bodyPost_ret (Rx.ret_set rfl _ ?_ (Rx.row_setRow HS7.out.res _) (Rx.cel_size f)) rfl ?_; (focus simp); simp only [Array.getD_eq_getD_getElem?])
            rw [← HQ2.out]
            exact HS7.out.no
          ·
            have ha1 := HA2.out
            subst ha1
            have hst : st = false := by have := HAl.out; rw [HA1.out, HST.out] at this; simpa using this
            subst hst
            go_wp2_with first
              | (go_at_call 20; ((with_reducible refine (HS.out.takes_no (HNo.out rfl)).mono ?_); rintro e w1 ⟨rfl, hs1⟩; have HS1 := Lib.hid hs1; have d1 := hs1.took.at_.c0; have hb1 := hs1.took.at_.lt; clear hs1))
              | (go_at_call 49; go_must ((refine (HS1.out.class_no HC.out).mono ?_); rintro e w2 ⟨c, rfl, hs2⟩; have HS2 := Lib.hid (hs2.alloc (.cells (Rx.cel c) 73)); have d2 := hs2.took.at_.c0; have hb2 := hs2.took.at_.lt; clear hs2))
              | ((with_reducible refine Rx.stset_new (Rx.cel c) _ (Rx.cel_size c) (Rx.cel_one c) z_size ?_ ?_ ?_); (focus simp [Act.eval, Act.put]); (focus simp [Act.eval, Act.put]))
              | (go_at_call 64; go_must (refine (HS2.out.alone).mono ?_; rintro e w3 ⟨rfl, hs3⟩; have HS3 := Lib.hid hs3; clear hs3; rw [HA1.out]))
              | (go_at_call 26; go_must (refine (HS3.out.begins 45).mono ?_; rintro e w3b ⟨rfl, rfl⟩; rw [HST.out]))
              | (go_at_call 50; ((with_reducible refine (HS3.out.byte_yes HT.out).mono ?_); rintro e w4 ⟨rfl, hs4⟩; have HS4 := Lib.hid hs4; clear hs4))
              | (go_at_call 65; go_must (refine (HS4.out.range).mono ?_; rintro e w5 ⟨rfl, hs5⟩; have HS5 := Lib.hid hs5; clear hs5; rw [HRg.out]))
              | (go_at_call 20; ((with_reducible refine (HS5.out.takes_yes (Rx.range_starts HRg.out)).mono ?_); rintro e w6 ⟨rfl, hs6⟩; have HS6 := Lib.hid hs6; clear hs6))
              | (go_at_call 50; ((with_reducible refine (HS6.out.byte_no HT2.out).mono ?_); rintro e w7 ⟨rfl, m7, hs7⟩; have HS7 := Lib.hid hs7; clear hs7))
              | ((with_reducible refine Rx.ldset (Rx.cel f) (Rx.cel_size f) ?_ (HS7.out.row) ?_); (focus simp [Act.eval, Act.put]))
              | ((with_reducible refine Rx.stset (Rx.cel f) Try.zeroCells73 (Rx.cel_size f) (Rx.cel_one f) z_size ?_ ?_ (HS7.out.res) ?_); (focus simp [Act.eval, Act.put]); (focus simp [Act.eval, Act.put]))
            ((try simp only [Exit.inBlock, Exit.then]); refine bodyPost_ret (Rx.ret_set rfl _ ?_ (Rx.row_setRow HS7.out.res _) (Rx.cel_size f)) rfl ?_; (focus simp); simp only [Array.getD_eq_getD_getElem?])
            rw [← HQ2.out]
            exact HS7.out.no
          ·
            have ha1 := HA2.out
            subst ha1
            go_wp2_with first
              | (go_at_call 49; go_must ((refine (HS.out.class_no HC.out).mono ?_); rintro e w2 ⟨c, rfl, hs2⟩; have HS2 := Lib.hid (hs2.alloc (.cells (Rx.cel c) 73)); have d2 := hs2.took.at_.c0; have hb2 := hs2.took.at_.lt; clear hs2))
              | ((with_reducible refine Rx.stset_new (Rx.cel c) _ (Rx.cel_size c) (Rx.cel_one c) z_size ?_ ?_ ?_); (focus simp [Act.eval, Act.put]); (focus simp [Act.eval, Act.put]))
              | (go_at_call 64; go_must (refine (HS2.out.alone).mono ?_; rintro e w3 ⟨rfl, hs3⟩; have HS3 := Lib.hid hs3; clear hs3; rw [HA1.out]))
              | (go_at_call 50; ((with_reducible refine (HS3.out.byte_yes HT.out).mono ?_); rintro e w4 ⟨rfl, hs4⟩; have HS4 := Lib.hid hs4; clear hs4))
              | (go_at_call 65; go_must (refine (HS4.out.range).mono ?_; rintro e w5 ⟨rfl, hs5⟩; have HS5 := Lib.hid hs5; clear hs5; rw [HRg.out]))
              | (go_at_call 20; ((with_reducible refine (HS5.out.takes_yes (Rx.range_starts HRg.out)).mono ?_); rintro e w6 ⟨rfl, hs6⟩; have HS6 := Lib.hid hs6; clear hs6))
              | (go_at_call 50; ((with_reducible refine (HS6.out.byte_no HT2.out).mono ?_); rintro e w7 ⟨rfl, m7, hs7⟩; have HS7 := Lib.hid hs7; clear hs7))
              | ((with_reducible refine Rx.ldset (Rx.cel f) (Rx.cel_size f) ?_ (HS7.out.row) ?_); (focus simp [Act.eval, Act.put]))
              | ((with_reducible refine Rx.stset (Rx.cel f) Try.zeroCells73 (Rx.cel_size f) (Rx.cel_one f) z_size ?_ ?_ (HS7.out.res) ?_); (focus simp [Act.eval, Act.put]); (focus simp [Act.eval, Act.put]))
            ((try simp only [Exit.inBlock, Exit.then]); refine bodyPost_ret (Rx.ret_set rfl _ ?_ (Rx.row_setRow HS7.out.res _) (Rx.cel_size f)) rfl ?_; (focus simp); simp only [Array.getD_eq_getD_getElem?])
            rw [← HQ2.out]
            exact HS7.out.no
          ·
            have ha1 := HA2.out
            subst ha1
            have hst : st = false := by have := HAl.out; rw [HA1.out, HST.out] at this; simpa using this
            subst hst
            go_wp2_with first
              | (go_at_call 49; go_must ((refine (HS.out.class_no HC.out).mono ?_); rintro e w2 ⟨c, rfl, hs2⟩; have HS2 := Lib.hid (hs2.alloc (.cells (Rx.cel c) 73)); have d2 := hs2.took.at_.c0; have hb2 := hs2.took.at_.lt; clear hs2))
              | ((with_reducible refine Rx.stset_new (Rx.cel c) _ (Rx.cel_size c) (Rx.cel_one c) z_size ?_ ?_ ?_); (focus simp [Act.eval, Act.put]); (focus simp [Act.eval, Act.put]))
              | (go_at_call 64; go_must (refine (HS2.out.alone).mono ?_; rintro e w3 ⟨rfl, hs3⟩; have HS3 := Lib.hid hs3; clear hs3; rw [HA1.out]))
              | (go_at_call 26; go_must (refine (HS3.out.begins 45).mono ?_; rintro e w3b ⟨rfl, rfl⟩; rw [HST.out]))
              | (go_at_call 50; ((with_reducible refine (HS3.out.byte_yes HT.out).mono ?_); rintro e w4 ⟨rfl, hs4⟩; have HS4 := Lib.hid hs4; clear hs4))
              | (go_at_call 65; go_must (refine (HS4.out.range).mono ?_; rintro e w5 ⟨rfl, hs5⟩; have HS5 := Lib.hid hs5; clear hs5; rw [HRg.out]))
              | (go_at_call 20; ((with_reducible refine (HS5.out.takes_yes (Rx.range_starts HRg.out)).mono ?_); rintro e w6 ⟨rfl, hs6⟩; have HS6 := Lib.hid hs6; clear hs6))
              | (go_at_call 50; ((with_reducible refine (HS6.out.byte_no HT2.out).mono ?_); rintro e w7 ⟨rfl, m7, hs7⟩; have HS7 := Lib.hid hs7; clear hs7))
              | ((with_reducible refine Rx.ldset (Rx.cel f) (Rx.cel_size f) ?_ (HS7.out.row) ?_); (focus simp [Act.eval, Act.put]))
              | ((with_reducible refine Rx.stset (Rx.cel f) Try.zeroCells73 (Rx.cel_size f) (Rx.cel_one f) z_size ?_ ?_ (HS7.out.res) ?_); (focus simp [Act.eval, Act.put]); (focus simp [Act.eval, Act.put]))
            ((try simp only [Exit.inBlock, Exit.then]); refine bodyPost_ret (Rx.ret_set rfl _ ?_ (Rx.row_setRow HS7.out.res _) (Rx.cel_size f)) rfl ?_; (focus simp); simp only [Array.getD_eq_getD_getElem?])
            rw [← HQ2.out]
            exact HS7.out.no
        | some y =>
          obtain ⟨hi, r2⟩ := y
          rw [ht2] at HQ
          have HT2 := Lib.hid ht2
          have HL2 : Hid (r2.length < m.length) := Lib.hid (by have := Rx.takeByte_len ht2; have := HL.out; rw [List.length_drop] at *; omega)
          clear ht2
          by_cases hlt : hi < lo
          · have HQ2 : Hid (none = R) := Lib.hid (by have := HQ.out; simp only [hlt, if_true] at this; exact this)
            have hI : (hi.toNat : Int) < (lo.toNat : Int) := by have := UInt8.lt_iff_toNat_lt.1 hlt; omega
            clear hlt HQ
            cases fst <;> cases aft
            ·
              have ha1 := HA2.out
              subst ha1
              go_wp2_with first
                | (go_at_call 20; ((with_reducible refine (HS.out.takes_no (HNo.out rfl)).mono ?_); rintro e w1 ⟨rfl, hs1⟩; have HS1 := Lib.hid hs1; have d1 := hs1.took.at_.c0; have hb1 := hs1.took.at_.lt; clear hs1))
                | (go_at_call 49; go_must ((refine (HS1.out.class_no HC.out).mono ?_); rintro e w2 ⟨c, rfl, hs2⟩; have HS2 := Lib.hid (hs2.alloc (.cells (Rx.cel c) 73)); have d2 := hs2.took.at_.c0; have hb2 := hs2.took.at_.lt; clear hs2))
                | ((with_reducible refine Rx.stset_new (Rx.cel c) _ (Rx.cel_size c) (Rx.cel_one c) z_size ?_ ?_ ?_); (focus simp [Act.eval, Act.put]); (focus simp [Act.eval, Act.put]))
                | (go_at_call 64; go_must (refine (HS2.out.alone).mono ?_; rintro e w3 ⟨rfl, hs3⟩; have HS3 := Lib.hid hs3; clear hs3; rw [HA1.out]))
                | (go_at_call 50; ((with_reducible refine (HS3.out.byte_yes HT.out).mono ?_); rintro e w4 ⟨rfl, hs4⟩; have HS4 := Lib.hid hs4; clear hs4))
                | (go_at_call 65; go_must (refine (HS4.out.range).mono ?_; rintro e w5 ⟨rfl, hs5⟩; have HS5 := Lib.hid hs5; clear hs5; rw [HRg.out]))
                | (go_at_call 20; ((with_reducible refine (HS5.out.takes_yes (Rx.range_starts HRg.out)).mono ?_); rintro e w6 ⟨rfl, hs6⟩; have HS6 := Lib.hid hs6; clear hs6))
                | (go_at_call 50; ((with_reducible refine (HS6.out.byte_yes HT2.out).mono ?_); rintro e w7 ⟨rfl, hs7⟩; have HS7 := Lib.hid hs7; clear hs7))
                | ((with_reducible refine Rx.ldset (Rx.cel f) (Rx.cel_size f) ?_ (HS7.out.row) ?_); (focus simp [Act.eval, Act.put]))
                | ((with_reducible refine Rx.stset (Rx.cel f) Try.zeroCells73 (Rx.cel_size f) (Rx.cel_one f) z_size ?_ ?_ (HS7.out.res) ?_); (focus simp [Act.eval, Act.put]); (focus simp [Act.eval, Act.put]))
              ((try simp only [Exit.inBlock, Exit.then]); refine bodyPost_ret (Rx.ret_set rfl _ ?_ (Rx.row_setRow HS7.out.res _) (Rx.cel_size f)) rfl ?_; (focus simp); simp only [Array.getD_eq_getD_getElem?])
              rw [← HQ2.out]
              exact HS7.out.no
            ·
              have ha1 := HA2.out
              subst ha1
              have hst : st = false := by have := HAl.out; rw [HA1.out, HST.out] at this; simpa using this
              subst hst
              go_wp2_with first
                | (go_at_call 20; ((with_reducible refine (HS.out.takes_no (HNo.out rfl)).mono ?_); rintro e w1 ⟨rfl, hs1⟩; have HS1 := Lib.hid hs1; have d1 := hs1.took.at_.c0; have hb1 := hs1.took.at_.lt; clear hs1))
                | (go_at_call 49; go_must ((refine (HS1.out.class_no HC.out).mono ?_); rintro e w2 ⟨c, rfl, hs2⟩; have HS2 := Lib.hid (hs2.alloc (.cells (Rx.cel c) 73)); have d2 := hs2.took.at_.c0; have hb2 := hs2.took.at_.lt; clear hs2))
                | ((with_reducible refine Rx.stset_new (Rx.cel c) _ (Rx.cel_size c) (Rx.cel_one c) z_size ?_ ?_ ?_); (focus simp [Act.eval, Act.put]); (focus simp [Act.eval, Act.put]))
                | (go_at_call 64; go_must (refine (HS2.out.alone).mono ?_; rintro e w3 ⟨rfl, hs3⟩; have HS3 := Lib.hid hs3; clear hs3; rw [HA1.out]))
                | (go_at_call 26; go_must (refine (HS3.out.begins 45).mono ?_; rintro e w3b ⟨rfl, rfl⟩; rw [HST.out]))
                | (go_at_call 50; ((with_reducible refine (HS3.out.byte_yes HT.out).mono ?_); rintro e w4 ⟨rfl, hs4⟩; have HS4 := Lib.hid hs4; clear hs4))
                | (go_at_call 65; go_must (refine (HS4.out.range).mono ?_; rintro e w5 ⟨rfl, hs5⟩; have HS5 := Lib.hid hs5; clear hs5; rw [HRg.out]))
                | (go_at_call 20; ((with_reducible refine (HS5.out.takes_yes (Rx.range_starts HRg.out)).mono ?_); rintro e w6 ⟨rfl, hs6⟩; have HS6 := Lib.hid hs6; clear hs6))
                | (go_at_call 50; ((with_reducible refine (HS6.out.byte_yes HT2.out).mono ?_); rintro e w7 ⟨rfl, hs7⟩; have HS7 := Lib.hid hs7; clear hs7))
                | ((with_reducible refine Rx.ldset (Rx.cel f) (Rx.cel_size f) ?_ (HS7.out.row) ?_); (focus simp [Act.eval, Act.put]))
                | ((with_reducible refine Rx.stset (Rx.cel f) Try.zeroCells73 (Rx.cel_size f) (Rx.cel_one f) z_size ?_ ?_ (HS7.out.res) ?_); (focus simp [Act.eval, Act.put]); (focus simp [Act.eval, Act.put]))
              ((try simp only [Exit.inBlock, Exit.then]); refine bodyPost_ret (Rx.ret_set rfl _ ?_ (Rx.row_setRow HS7.out.res _) (Rx.cel_size f)) rfl ?_; (focus simp); simp only [Array.getD_eq_getD_getElem?])
              rw [← HQ2.out]
              exact HS7.out.no
            ·
              have ha1 := HA2.out
              subst ha1
              go_wp2_with first
                | (go_at_call 49; go_must ((refine (HS.out.class_no HC.out).mono ?_); rintro e w2 ⟨c, rfl, hs2⟩; have HS2 := Lib.hid (hs2.alloc (.cells (Rx.cel c) 73)); have d2 := hs2.took.at_.c0; have hb2 := hs2.took.at_.lt; clear hs2))
                | ((with_reducible refine Rx.stset_new (Rx.cel c) _ (Rx.cel_size c) (Rx.cel_one c) z_size ?_ ?_ ?_); (focus simp [Act.eval, Act.put]); (focus simp [Act.eval, Act.put]))
                | (go_at_call 64; go_must (refine (HS2.out.alone).mono ?_; rintro e w3 ⟨rfl, hs3⟩; have HS3 := Lib.hid hs3; clear hs3; rw [HA1.out]))
                | (go_at_call 50; ((with_reducible refine (HS3.out.byte_yes HT.out).mono ?_); rintro e w4 ⟨rfl, hs4⟩; have HS4 := Lib.hid hs4; clear hs4))
                | (go_at_call 65; go_must (refine (HS4.out.range).mono ?_; rintro e w5 ⟨rfl, hs5⟩; have HS5 := Lib.hid hs5; clear hs5; rw [HRg.out]))
                | (go_at_call 20; ((with_reducible refine (HS5.out.takes_yes (Rx.range_starts HRg.out)).mono ?_); rintro e w6 ⟨rfl, hs6⟩; have HS6 := Lib.hid hs6; clear hs6))
                | (go_at_call 50; ((with_reducible refine (HS6.out.byte_yes HT2.out).mono ?_); rintro e w7 ⟨rfl, hs7⟩; have HS7 := Lib.hid hs7; clear hs7))
                | ((with_reducible refine Rx.ldset (Rx.cel f) (Rx.cel_size f) ?_ (HS7.out.row) ?_); (focus simp [Act.eval, Act.put]))
                | ((with_reducible refine Rx.stset (Rx.cel f) Try.zeroCells73 (Rx.cel_size f) (Rx.cel_one f) z_size ?_ ?_ (HS7.out.res) ?_); (focus simp [Act.eval, Act.put]); (focus simp [Act.eval, Act.put]))
              ((try simp only [Exit.inBlock, Exit.then]); refine bodyPost_ret (Rx.ret_set rfl _ ?_ (Rx.row_setRow HS7.out.res _) (Rx.cel_size f)) rfl ?_; (focus simp); simp only [Array.getD_eq_getD_getElem?])
              rw [← HQ2.out]
              exact HS7.out.no
            ·
              have ha1 := HA2.out
              subst ha1
              have hst : st = false := by have := HAl.out; rw [HA1.out, HST.out] at this; simpa using this
              subst hst
              go_wp2_with first
                | (go_at_call 49; go_must ((refine (HS.out.class_no HC.out).mono ?_); rintro e w2 ⟨c, rfl, hs2⟩; have HS2 := Lib.hid (hs2.alloc (.cells (Rx.cel c) 73)); have d2 := hs2.took.at_.c0; have hb2 := hs2.took.at_.lt; clear hs2))
                | ((with_reducible refine Rx.stset_new (Rx.cel c) _ (Rx.cel_size c) (Rx.cel_one c) z_size ?_ ?_ ?_); (focus simp [Act.eval, Act.put]); (focus simp [Act.eval, Act.put]))
                | (go_at_call 64; go_must (refine (HS2.out.alone).mono ?_; rintro e w3 ⟨rfl, hs3⟩; have HS3 := Lib.hid hs3; clear hs3; rw [HA1.out]))
                | (go_at_call 26; go_must (refine (HS3.out.begins 45).mono ?_; rintro e w3b ⟨rfl, rfl⟩; rw [HST.out]))
                | (go_at_call 50; ((with_reducible refine (HS3.out.byte_yes HT.out).mono ?_); rintro e w4 ⟨rfl, hs4⟩; have HS4 := Lib.hid hs4; clear hs4))
                | (go_at_call 65; go_must (refine (HS4.out.range).mono ?_; rintro e w5 ⟨rfl, hs5⟩; have HS5 := Lib.hid hs5; clear hs5; rw [HRg.out]))
                | (go_at_call 20; ((with_reducible refine (HS5.out.takes_yes (Rx.range_starts HRg.out)).mono ?_); rintro e w6 ⟨rfl, hs6⟩; have HS6 := Lib.hid hs6; clear hs6))
                | (go_at_call 50; ((with_reducible refine (HS6.out.byte_yes HT2.out).mono ?_); rintro e w7 ⟨rfl, hs7⟩; have HS7 := Lib.hid hs7; clear hs7))
                | ((with_reducible refine Rx.ldset (Rx.cel f) (Rx.cel_size f) ?_ (HS7.out.row) ?_); (focus simp [Act.eval, Act.put]))
                | ((with_reducible refine Rx.stset (Rx.cel f) Try.zeroCells73 (Rx.cel_size f) (Rx.cel_one f) z_size ?_ ?_ (HS7.out.res) ?_); (focus simp [Act.eval, Act.put]); (focus simp [Act.eval, Act.put]))
              ((try simp only [Exit.inBlock, Exit.then]); refine bodyPost_ret (Rx.ret_set rfl _ ?_ (Rx.row_setRow HS7.out.res _) (Rx.cel_size f)) rfl ?_; (focus simp); simp only [Array.getD_eq_getD_getElem?])
              rw [← HQ2.out]
              exact HS7.out.no
          · have HQ2 : Hid (Rx.items k false false r2 (Rx.add f lo.toNat hi.toNat) = R) := Lib.hid (by have := HQ.out; simp only [hlt, if_false] at this; exact this)
            have hI : ¬ (hi.toNat : Int) < (lo.toNat : Int) := by have : ¬ hi.toNat < lo.toNat := fun h => hlt (UInt8.lt_iff_toNat_lt.2 h); omega
            clear hlt HQ
            cases fst <;> cases aft
            ·
              have ha1 := HA2.out
              subst ha1
              go_wp2_with first
                | (go_at_call 20; ((with_reducible refine (HS.out.takes_no (HNo.out rfl)).mono ?_); rintro e w1 ⟨rfl, hs1⟩; have HS1 := Lib.hid hs1; have d1 := hs1.took.at_.c0; have hb1 := hs1.took.at_.lt; clear hs1))
                | (go_at_call 49; go_must ((refine (HS1.out.class_no HC.out).mono ?_); rintro e w2 ⟨c, rfl, hs2⟩; have HS2 := Lib.hid (hs2.alloc (.cells (Rx.cel c) 73)); have d2 := hs2.took.at_.c0; have hb2 := hs2.took.at_.lt; clear hs2))
                | ((with_reducible refine Rx.stset_new (Rx.cel c) _ (Rx.cel_size c) (Rx.cel_one c) z_size ?_ ?_ ?_); (focus simp [Act.eval, Act.put]); (focus simp [Act.eval, Act.put]))
                | (go_at_call 64; go_must (refine (HS2.out.alone).mono ?_; rintro e w3 ⟨rfl, hs3⟩; have HS3 := Lib.hid hs3; clear hs3; rw [HA1.out]))
                | (go_at_call 50; ((with_reducible refine (HS3.out.byte_yes HT.out).mono ?_); rintro e w4 ⟨rfl, hs4⟩; have HS4 := Lib.hid hs4; clear hs4))
                | (go_at_call 65; go_must (refine (HS4.out.range).mono ?_; rintro e w5 ⟨rfl, hs5⟩; have HS5 := Lib.hid hs5; clear hs5; rw [HRg.out]))
                | (go_at_call 20; ((with_reducible refine (HS5.out.takes_yes (Rx.range_starts HRg.out)).mono ?_); rintro e w6 ⟨rfl, hs6⟩; have HS6 := Lib.hid hs6; clear hs6))
                | (go_at_call 50; ((with_reducible refine (HS6.out.byte_yes HT2.out).mono ?_); rintro e w7 ⟨rfl, hs7⟩; have HS7 := Lib.hid hs7; clear hs7))
                | (go_at_call 46; go_must (refine (HS7.out.add_ lo hi).mono ?_; rintro e w9 ⟨rfl, hs9⟩; have HS9 := Lib.hid hs9; clear hs9))
              go_roundw
              case rel => exact ⟨false, false, _, _, rfl, rfl, Lib.hid ⟨k, by have := HL2.out; have := HKR.out.1; omega, HQ2.out⟩, HS9⟩
              case measure => rw [HMS.out, HS9.out.left]; have := HL2.out; omega
            ·
              have ha1 := HA2.out
              subst ha1
              have hst : st = false := by have := HAl.out; rw [HA1.out, HST.out] at this; simpa using this
              subst hst
              go_wp2_with first
                | (go_at_call 20; ((with_reducible refine (HS.out.takes_no (HNo.out rfl)).mono ?_); rintro e w1 ⟨rfl, hs1⟩; have HS1 := Lib.hid hs1; have d1 := hs1.took.at_.c0; have hb1 := hs1.took.at_.lt; clear hs1))
                | (go_at_call 49; go_must ((refine (HS1.out.class_no HC.out).mono ?_); rintro e w2 ⟨c, rfl, hs2⟩; have HS2 := Lib.hid (hs2.alloc (.cells (Rx.cel c) 73)); have d2 := hs2.took.at_.c0; have hb2 := hs2.took.at_.lt; clear hs2))
                | ((with_reducible refine Rx.stset_new (Rx.cel c) _ (Rx.cel_size c) (Rx.cel_one c) z_size ?_ ?_ ?_); (focus simp [Act.eval, Act.put]); (focus simp [Act.eval, Act.put]))
                | (go_at_call 64; go_must (refine (HS2.out.alone).mono ?_; rintro e w3 ⟨rfl, hs3⟩; have HS3 := Lib.hid hs3; clear hs3; rw [HA1.out]))
                | (go_at_call 26; go_must (refine (HS3.out.begins 45).mono ?_; rintro e w3b ⟨rfl, rfl⟩; rw [HST.out]))
                | (go_at_call 50; ((with_reducible refine (HS3.out.byte_yes HT.out).mono ?_); rintro e w4 ⟨rfl, hs4⟩; have HS4 := Lib.hid hs4; clear hs4))
                | (go_at_call 65; go_must (refine (HS4.out.range).mono ?_; rintro e w5 ⟨rfl, hs5⟩; have HS5 := Lib.hid hs5; clear hs5; rw [HRg.out]))
                | (go_at_call 20; ((with_reducible refine (HS5.out.takes_yes (Rx.range_starts HRg.out)).mono ?_); rintro e w6 ⟨rfl, hs6⟩; have HS6 := Lib.hid hs6; clear hs6))
                | (go_at_call 50; ((with_reducible refine (HS6.out.byte_yes HT2.out).mono ?_); rintro e w7 ⟨rfl, hs7⟩; have HS7 := Lib.hid hs7; clear hs7))
                | (go_at_call 46; go_must (refine (HS7.out.add_ lo hi).mono ?_; rintro e w9 ⟨rfl, hs9⟩; have HS9 := Lib.hid hs9; clear hs9))
              go_roundw
              case rel => exact ⟨false, false, _, _, rfl, rfl, Lib.hid ⟨k, by have := HL2.out; have := HKR.out.1; omega, HQ2.out⟩, HS9⟩
              case measure => rw [HMS.out, HS9.out.left]; have := HL2.out; omega
            ·
              have ha1 := HA2.out
              subst ha1
              go_wp2_with first
                | (go_at_call 49; go_must ((refine (HS.out.class_no HC.out).mono ?_); rintro e w2 ⟨c, rfl, hs2⟩; have HS2 := Lib.hid (hs2.alloc (.cells (Rx.cel c) 73)); have d2 := hs2.took.at_.c0; have hb2 := hs2.took.at_.lt; clear hs2))
                | ((with_reducible refine Rx.stset_new (Rx.cel c) _ (Rx.cel_size c) (Rx.cel_one c) z_size ?_ ?_ ?_); (focus simp [Act.eval, Act.put]); (focus simp [Act.eval, Act.put]))
                | (go_at_call 64; go_must (refine (HS2.out.alone).mono ?_; rintro e w3 ⟨rfl, hs3⟩; have HS3 := Lib.hid hs3; clear hs3; rw [HA1.out]))
                | (go_at_call 50; ((with_reducible refine (HS3.out.byte_yes HT.out).mono ?_); rintro e w4 ⟨rfl, hs4⟩; have HS4 := Lib.hid hs4; clear hs4))
                | (go_at_call 65; go_must (refine (HS4.out.range).mono ?_; rintro e w5 ⟨rfl, hs5⟩; have HS5 := Lib.hid hs5; clear hs5; rw [HRg.out]))
                | (go_at_call 20; ((with_reducible refine (HS5.out.takes_yes (Rx.range_starts HRg.out)).mono ?_); rintro e w6 ⟨rfl, hs6⟩; have HS6 := Lib.hid hs6; clear hs6))
                | (go_at_call 50; ((with_reducible refine (HS6.out.byte_yes HT2.out).mono ?_); rintro e w7 ⟨rfl, hs7⟩; have HS7 := Lib.hid hs7; clear hs7))
                | (go_at_call 46; go_must (refine (HS7.out.add_ lo hi).mono ?_; rintro e w9 ⟨rfl, hs9⟩; have HS9 := Lib.hid hs9; clear hs9))
              go_roundw
              case rel => exact ⟨false, false, _, _, rfl, rfl, Lib.hid ⟨k, by have := HL2.out; have := HKR.out.1; omega, HQ2.out⟩, HS9⟩
              case measure => rw [HMS.out, HS9.out.left]; have := HL2.out; omega
            ·
              have ha1 := HA2.out
              subst ha1
              have hst : st = false := by have := HAl.out; rw [HA1.out, HST.out] at this; simpa using this
              subst hst
              go_wp2_with first
                | (go_at_call 49; go_must ((refine (HS.out.class_no HC.out).mono ?_); rintro e w2 ⟨c, rfl, hs2⟩; have HS2 := Lib.hid (hs2.alloc (.cells (Rx.cel c) 73)); have d2 := hs2.took.at_.c0; have hb2 := hs2.took.at_.lt; clear hs2))
                | ((with_reducible refine Rx.stset_new (Rx.cel c) _ (Rx.cel_size c) (Rx.cel_one c) z_size ?_ ?_ ?_); (focus simp [Act.eval, Act.put]); (focus simp [Act.eval, Act.put]))
                | (go_at_call 64; go_must (refine (HS2.out.alone).mono ?_; rintro e w3 ⟨rfl, hs3⟩; have HS3 := Lib.hid hs3; clear hs3; rw [HA1.out]))
                | (go_at_call 26; go_must (refine (HS3.out.begins 45).mono ?_; rintro e w3b ⟨rfl, rfl⟩; rw [HST.out]))
                | (go_at_call 50; ((with_reducible refine (HS3.out.byte_yes HT.out).mono ?_); rintro e w4 ⟨rfl, hs4⟩; have HS4 := Lib.hid hs4; clear hs4))
                | (go_at_call 65; go_must (refine (HS4.out.range).mono ?_; rintro e w5 ⟨rfl, hs5⟩; have HS5 := Lib.hid hs5; clear hs5; rw [HRg.out]))
                | (go_at_call 20; ((with_reducible refine (HS5.out.takes_yes (Rx.range_starts HRg.out)).mono ?_); rintro e w6 ⟨rfl, hs6⟩; have HS6 := Lib.hid hs6; clear hs6))
                | (go_at_call 50; ((with_reducible refine (HS6.out.byte_yes HT2.out).mono ?_); rintro e w7 ⟨rfl, hs7⟩; have HS7 := Lib.hid hs7; clear hs7))
                | (go_at_call 46; go_must (refine (HS7.out.add_ lo hi).mono ?_; rintro e w9 ⟨rfl, hs9⟩; have HS9 := Lib.hid hs9; clear hs9))
              go_roundw
              case rel => exact ⟨false, false, _, _, rfl, rfl, Lib.hid ⟨k, by have := HL2.out; have := HKR.out.1; omega, HQ2.out⟩, HS9⟩
              case measure => rw [HMS.out, HS9.out.left]; have := HL2.out; omega
end Go.Proofs.Ytajijcnfhijanaa
