/-
  CONTRACTS: chapter 11: one of the branches.
-/
import Derived.Test.YtajijcnfhijanaaRxRep
namespace Go.Proofs.Ytajijcnfhijanaa
open Go.RowKit
open Me

namespace Rx
/-- A slice of codes that is read. -/
structure BrsAt (w : World) (g o : Nat) (bs : List (List In)) : Prop where
  lt : g < w.heap.size
  at_ : ∀ j b, bs[j]? = some b → ∃ A c, w.cell? ⟨g, o + j, none⟩ = some (.slice A b.length c) ∧ RdC w 0 (.slice A b.length c) b
theorem BrsAt.below {w W : World} {g o : Nat} {bs : List (List In)} (h : BrsAt w g o bs) (k : Below w.heap.size w W) : BrsAt W g o bs :=
  ⟨Nat.lt_of_lt_of_le h.lt k.size, fun j b hj => by
    obtain ⟨A, c, h1, h2⟩ := h.at_ j b hj
    exact ⟨A, c, (k.cell (p := ⟨g, o + j, none⟩) h.lt).trans h1, h2.below k⟩⟩
theorem choice_cons (b : List In) (r : List (List In)) (hr : r ≠ []) : choice (b :: r) = ⟨2, 1, ((b.length + 2 : Nat) : Int), []⟩ :: (b ++ ⟨3, (((choice r).length + 1 : Nat) : Int), 0, []⟩ :: choice r) := by
  cases r with
  | nil => exact absurd rfl hr
  | cons c r => rfl
theorem drop_last {bs : List (List In)} {n : Nat} {b : List In} (hb : bs[n]? = some b) (h : bs.length = n + 1) : bs.drop n = [b] := by
  obtain ⟨h1, h2⟩ := List.getElem?_eq_some_iff.1 hb
  rw [List.drop_eq_getElem_cons h1, List.drop_eq_nil_of_le (by omega), h2]
theorem drop_step {bs : List (List In)} {n k : Nat} {b : List In} (h : bs.length = n + 1) (hk : k < n) (hb : bs[k]? = some b) : choice (bs.drop k) = ⟨2, 1, ((b.length + 2 : Nat) : Int), []⟩ :: (b ++ ⟨3, (((choice (bs.drop (k + 1))).length + 1 : Nat) : Int), 0, []⟩ :: choice (bs.drop (k + 1))) := by
  obtain ⟨h1, h2⟩ := List.getElem?_eq_some_iff.1 hb
  rw [List.drop_eq_getElem_cons h1, choice_cons _ _ (by intro e; have := congrArg List.length e; simp at this; omega), h2]
theorem left_step {bs : List (List In)} {n k : Nat} {b : List In} (h : bs.length = n + 1) (hk : k < n) (hb : bs[k]? = some b) : (choice (bs.drop k)).length = (choice (bs.drop (k + 1))).length + (b.length + 2) := by
  rw [drop_step h hk hb]
  simp; omega
theorem left_le {bs : List (List In)} {n : Nat} (h : bs.length = n + 1) : ∀ k, k ≤ n → (choice (bs.drop k)).length ≤ (choice bs).length
  | 0, _ => Nat.le_refl _
  | k + 1, hk => by
    have h1 := left_le h k (by omega)
    have h2 : k < bs.length := by omega
    have := left_step h (by omega) (List.getElem?_eq_getElem h2)
    omega
end Rx

set_option maxRecDepth 100000 in
set_option maxHeartbeats 4000000 in
theorem choice_any {w : World} {g o cp n : Nat} {bs : List (List Rx.In)} (h : Rx.BrsAt w g o bs) (hn : bs.length = n + 1) (hc : bs.length ≤ cp) (hn2 : n ≤ 1048576) (hlen : (Rx.choice bs).length ≤ 1048576) :
    Calls Try.prog 21 #[.slice (some ⟨g, o, none⟩) (n + 1) cp] w (Rx.GaveC w (Rx.choice bs)) := by
  have HB := Lib.hid h
  have HN := Lib.hid hn
  have HL := Lib.hid hlen
  have hgl := h.lt
  have hnI : (n : Int) ≤ (cp : Int) := by omega
  have hn0 : (0 : Int) ≤ (n : Int) := by omega
  have hn1 : (n : Int) < (n : Int) + 1 := by omega
  have hw1 : IntKind.i64.wrap ((n : Int) + 1 - 1) = (n : Int) := by rw [IntKind.wrap_i64]; omega
  have hw1' : IntKind.i64.wrap (((n + 1 : Nat) : Int) - 1) = (n : Int) := by rw [IntKind.wrap_i64]; omega
  obtain ⟨lb, Hlb⟩ : ∃ lb, Hid (bs[n]? = some lb) := ⟨bs[n]'(by omega), Lib.hid (List.getElem?_eq_getElem (by omega))⟩
  obtain ⟨An, cn, hcn, hrn⟩ := h.at_ n lb Hlb.out
  have HRn := Lib.hid hrn
  have HLast : Hid (Rx.choice (bs.drop n) = lb) := Lib.hid (by rw [Rx.drop_last Hlb.out hn]; rfl)
  have HLe := Lib.hid (fun k hk => Nat.le_trans (Rx.left_le hn k hk) hlen)
  clear h hn hlen hrn hc
  go_enter Try.func21, Try.ntmps21
  go_wp2_with fail
  go_loopw [4, 22] (fun a c wr => ∃ (k L : Nat), a = .int .i64 L ∧ c = .int .i64 k ∧ k ≤ n ∧ L ≤ 4194304 ∧ Hid (L + (Rx.choice (bs.drop k)).length = lb.length + (Rx.choice bs).length) ∧ wr = w) (fun _ c _ => n - (intOf c).toNat)
  case atStart => exact ⟨0, lb.length, rfl, rfl, Nat.zero_le _, by have := HLe.out n (Nat.le_refl _); rw [HLast.out] at this; omega, Lib.hid rfl, by first | rfl | trivial⟩
  case round =>
    obtain ⟨k, L, rfl, rfl, hk, hL, HLk, rfl⟩ := hrel
    by_cases hgo : k < n
    · have hgoI : (k : Int) < (n : Int) := by omega
      have hk0 : (0 : Int) ≤ (k : Int) := by omega
      obtain ⟨bk, Hbk⟩ : ∃ bk, Hid (bs[k]? = some bk) := ⟨bs[k]'(by have := HN.out; omega), Lib.hid (List.getElem?_eq_getElem (by have := HN.out; omega))⟩
      obtain ⟨Ak, ck, hck, _⟩ := HB.out.at_ k bk Hbk.out
      have HSt := Lib.hid (Rx.left_step HN.out hgo Hbk.out)
      have hbl : bk.length ≤ 1048576 := by have := HSt.out; have := HLe.out k (by omega); omega
      obtain ⟨L2, HL2⟩ : ∃ L2 : Nat, Hid (L + (bk.length + 2) = L2) := ⟨_, Lib.hid rfl⟩
      have hwa : IntKind.i64.wrap ((bk.length : Int) + 2) = ((bk.length + 2 : Nat) : Int) := by rw [IntKind.wrap_i64]; omega
      have hwb : IntKind.i64.wrap ((L : Int) + ((bk.length + 2 : Nat) : Int)) = (L2 : Int) := by have := HL2.out; rw [IntKind.wrap_i64]; omega
      have hwb' : IntKind.i64.wrap ((L : Int) + ((bk.length : Int) + 2)) = (L2 : Int) := by have := HL2.out; rw [IntKind.wrap_i64]; omega
      go_wp2_with fail
      go_roundw
      case rel =>
        refine ⟨k + 1, L2, rfl, by go_num, by omega, ?_, Lib.hid ?_, by first | rfl | trivial⟩
        · have := HL2.out; have := HLk.out; have := HSt.out; have := HLe.out 0 (Nat.zero_le _); have h5 := HLe.out n (Nat.le_refl _); rw [HLast.out] at h5; rw [List.drop_zero] at *; omega
        · have := HL2.out; have := HLk.out; have := HSt.out; omega
      case measure => simp [intOf]; omega
    · obtain rfl : k = n := by omega
      have HLL : Hid (L = (Rx.choice bs).length) := Lib.hid (by have := HLk.out; rw [HLast.out] at this; omega)
      have HBx := Lib.hid (Rx.BoxW.start wr)
      clear hgo hL HLk
      go_wp2_with fail
      go_loopw [4, 9, 36] (fun a u c W => ∃ (j L : Nat) (v : Value) (C : List Rx.In), a = .int .i64 L ∧ c = .int .i64 j ∧ j ≤ k ∧ L ≤ 1048576 ∧ Hid (L = (Rx.choice (bs.drop j)).length) ∧ Hid (C ++ Rx.choice (bs.drop j) = Rx.choice bs) ∧ Hid (Rx.BoxW wr W v C)) (fun _ _ c _ => k - (intOf c).toNat)
      case atStart => exact ⟨0, L, _, [], rfl, rfl, Nat.zero_le _, by have := HLL.out; have := HL.out; omega, HLL, Lib.hid rfl, HBx⟩
      case round =>
        rename_i W
        obtain ⟨j, M, v, C, rfl, rfl, hj, hM, HM, HC, HS⟩ := hrel
        have hbW := HS.out.below.size
        have hlC : Hid (C.length + M = (Rx.choice bs).length) := Lib.hid (by have := congrArg List.length HC.out; rw [List.length_append] at this; have := HM.out; omega)
        by_cases hgo : j < k
        · have hgoI : (j : Int) < (k : Int) := by omega
          have hj0 : (0 : Int) ≤ (j : Int) := by omega
          obtain ⟨bk, Hbk⟩ : ∃ bk, Hid (bs[j]? = some bk) := ⟨bs[j]'(by have := HN.out; omega), Lib.hid (List.getElem?_eq_getElem (by have := HN.out; omega))⟩
          obtain ⟨Ak, ck, hck0, hrk0⟩ := HB.out.at_ j bk Hbk.out
          have hck := (HS.out.below.cell (p := ⟨g, o + j, none⟩) hgl).trans hck0
          have HRk := Lib.hid hrk0
          have HSt := Lib.hid (Rx.left_step HN.out hgo Hbk.out)
          have hbl : bk.length ≤ 1048576 := by have := HSt.out; have := HLe.out j (by omega); omega
          obtain ⟨M2, HM2⟩ : ∃ M2 : Nat, Hid ((Rx.choice (bs.drop (j + 1))).length = M2) := ⟨_, Lib.hid rfl⟩
          obtain ⟨B2, HB2⟩ : ∃ B2 : Nat, Hid (bk.length + 2 = B2) := ⟨_, Lib.hid rfl⟩
          obtain ⟨M3, HM3⟩ : ∃ M3 : Nat, Hid (M2 + 1 = M3) := ⟨_, Lib.hid rfl⟩
          have hwa : IntKind.i64.wrap ((bk.length : Int) + 2) = (B2 : Int) := by have := HB2.out; rw [IntKind.wrap_i64]; omega
          have hwb : IntKind.i64.wrap ((M : Int) - (B2 : Int)) = (M2 : Int) := by have := HM.out; have := HM2.out; have := HB2.out; have := HSt.out; rw [IntKind.wrap_i64]; omega
          have hwc : IntKind.i64.wrap ((M2 : Int) + 1) = (M3 : Int) := by have := HM.out; have := HM2.out; have := HM3.out; have := HSt.out; rw [IntKind.wrap_i64]; omega
          have HSz : Hid (C.length + bk.length + 2 ≤ 1048576) := Lib.hid (by have := hlC.out; have := HM.out; have := HSt.out; have := HL.out; omega)
          have HCn : Hid (((C ++ [(⟨2, 1, (B2 : Int), []⟩ : Rx.In)]) ++ bk ++ [⟨3, (M3 : Int), 0, []⟩]) ++ Rx.choice (bs.drop (j + 1)) = Rx.choice bs) := Lib.hid (by
            rw [← HC.out, Rx.drop_step HN.out hgo Hbk.out, ← HB2.out, ← HM3.out, ← HM2.out]
            simp)
          clear hck0 hrk0
          go_wp2_with first
            | (go_at_call 13; ((with_reducible refine (HS.out.one ⟨2, 1, (B2 : Int), []⟩ _ ?_ ?_).mono ?_); (focus (simp; done)); (focus (have := HSz.out; simp <;> omega)); rintro e w1 ⟨rfl, v1, hs1⟩; have HS1 := Lib.hid hs1; clear hs1))
            | (go_at_call 13; ((with_reducible refine (HS1.out.emit HRk.out ?_).mono ?_); (focus (have := HSz.out; simp <;> omega)); rintro e w2 ⟨rfl, v2, hs2⟩; have HS2 := Lib.hid hs2; clear hs2))
            | (go_at_call 13; ((with_reducible refine (HS2.out.one ⟨3, (M3 : Int), 0, []⟩ _ ?_ ?_).mono ?_); (focus (simp; done)); (focus (have := HSz.out; simp <;> omega)); rintro e w3 ⟨rfl, v3, hs3⟩; have HS3 := Lib.hid hs3; clear hs3))
          go_roundw
          case rel => exact ⟨j + 1, M2, _, _, rfl, by go_num, by omega, by have := HM2.out; have := HSt.out; have := HM.out; omega, Lib.hid HM2.out.symm, HCn, HS3⟩
          case measure => simp [intOf]; omega
        · obtain rfl : j = k := by omega
          have HCn : Hid (C ++ lb = Rx.choice bs) := Lib.hid (by rw [← HLast.out]; exact HC.out)
          have HSz : Hid (C.length + lb.length ≤ 1048576) := Lib.hid (by have := congrArg List.length HCn.out; rw [List.length_append] at this; have := HL.out; omega)
          have hcW := (HS.out.below.cell (p := ⟨g, o + j, none⟩) hgl).trans hcn
          go_wp2_with first
            | (go_at_call 13; ((with_reducible refine (HS.out.emit HRn.out ?_).mono ?_); (focus (have := HSz.out; simp <;> omega)); rintro e w1 ⟨rfl, v1, hs1⟩; have HS1 := Lib.hid hs1; have c1 := hs1.c0; obtain ⟨A1, n1, cc1, rfl⟩ := own_slice hs1.at_.own; clear hs1))
          go_ret
          exact HCn.out ▸ HS1.out.gave
end Go.Proofs.Ytajijcnfhijanaa
