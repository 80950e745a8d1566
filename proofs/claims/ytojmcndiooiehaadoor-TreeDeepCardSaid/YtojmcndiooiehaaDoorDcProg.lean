/-
  CONTRACTS: the program's own functions of chapter 2, whole numbers first.
-/
import Derived.Test.YtojmcndiooiehaaDoorDcLib
namespace Go.Proofs.YtojmcndiooiehaaDoor
set_option maxRecDepth 20000
open Go.RowKit

namespace Dc
theorem allD_snoc_false {l : List UInt8} {k : Nat} (h : k < l.length) (hd : isD l[k] = false) : all l = false := by
  unfold all; rw [allD_false h hd]; rfl
theorem numFrom_take_succ (n : Nat) (l : List UInt8) (k : Nat) (h : k < l.length) : numFrom n (l.take (k + 1)) = numFrom n (l.take k) * 10 + (l[k].toNat - 48) := by
  rw [List.take_succ_eq_append_getElem h]
  unfold numFrom
  rw [List.foldl_append]
  rfl
theorem numFrom_take_le (n : Nat) (l : List UInt8) (k : Nat) : numFrom n (l.take k) ≤ numFrom n l := by
  have h : numFrom n l = numFrom (numFrom n (l.take k)) (l.drop k) := by
    unfold numFrom
    rw [← List.foldl_append, List.take_append_drop]
  rw [h, numFrom_eq (l.drop k)]
  have : 1 ≤ 10 ^ (l.drop k).length := Nat.one_le_pow _ _ (by decide)
  have := Nat.mul_le_mul_left (numFrom n (l.take k)) this
  omega
/-- Digits written behind a number: whether that is up to the greatest, and what it is. -/
def exB (n : Nat) (l : List UInt8) : Bool := decide (numFrom n l ≤ 4611686018427387904)
def exN (n : Nat) (l : List UInt8) : Int := if exB n l then (numFrom n l : Int) else 0
theorem ex_no {n : Nat} {l : List UInt8} {k : Nat} (h : 4611686018427387904 < numFrom n (l.take k)) : exB n l = false ∧ exN n l = 0 := by
  have h1 := numFrom_take_le n l k
  have h2 : exB n l = false := by unfold exB; rw [decide_eq_false_iff_not]; omega
  exact ⟨h2, by unfold exN; rw [h2]; rfl⟩
theorem ex_yes {n : Nat} {l : List UInt8} (h : numFrom n l ≤ 4611686018427387904) : exB n l = true ∧ exN n l = numFrom n l := by
  have h2 : exB n l = true := by unfold exB; rw [decide_eq_true_eq]; exact h
  exact ⟨h2, by unfold exN; rw [h2]; rfl⟩
end Dc

theorem notD_high {c : UInt8} (h : 128 ≤ c.toNat) : Dc.isD c = false := by
  cases hd : Dc.isD c
  · rfl
  · have := Dc.isD_iff.1 hd; omega

set_option maxHeartbeats 400000 in
theorem areDigits_any (l : List UInt8) (hl : l.length ≤ 4611686018427387904) (w : World) :
    Calls Tryd.prog 64 #[.string ⟨l.toArray⟩] w fun e w' => e = .returned (.bool (Dc.all l)) ∧ Below w.heap.size w w' := by
  go_enter Tryd.func64, Tryd.ntmps64
  go_wp2
  go_loopw [2] (fun _ wr => ∃ k : Nat, k ≤ l.length ∧ wr = w.iter ⟨l.toArray⟩ k ∧ Hid (Dc.allD (l.take k) = true)) (fun _ wr => l.length - wr.iterPos w.heap.size)
  case atStart => exact ⟨0, Nat.zero_le _, rfl, Lib.hid rfl⟩
  case round =>
    obtain ⟨k, hk, rfl, HD⟩ := hrel
    by_cases hlt : k < l.length
    · have hn := Lib.hid (Dc.allD_take_succ l k hlt)
      by_cases ha : (((⟨l.toArray⟩ : ByteArray)[k]'hlt).toNat) < 128
      · have hnx : ∀ ty, (Instr.next (.pointer (some ⟨w.heap.size, 0, none⟩)) true ty).run Tryd.prog (w.iter ⟨l.toArray⟩ k) = _ := fun ty => run_next_ascii w ⟨l.toArray⟩ k ty hlt ha
        cases hc : Dc.isD l[k]
        · have hf := Lib.hid (Dc.allD_snoc_false hlt hc)
          by_cases h48 : (48 : Int) ≤ (((⟨l.toArray⟩ : ByteArray)[k]'hlt).toNat : Int)
          · have h57 : (57 : Int) < (((⟨l.toArray⟩ : ByteArray)[k]'hlt).toNat : Int) := by
              have g : ¬ (48 ≤ l[k].toNat ∧ l[k].toNat ≤ 57) := fun h => by rw [Dc.isD_iff.2 h] at hc; cases hc
              have g2 : (48 : Int) ≤ (l[k].toNat : Int) := h48
              show (57 : Int) < (l[k].toNat : Int)
              omega
            clear hc
            go_wp2
            go_ret
            exact ⟨ret_bool (by rw [hf.out]), (Below.refl _ _).alloc (Nat.le_refl _) _⟩
          · have h48' : (((⟨l.toArray⟩ : ByteArray)[k]'hlt).toNat : Int) < 48 := by omega
            clear hc
            go_wp2
            go_ret
            exact ⟨ret_bool (by rw [hf.out]), (Below.refl _ _).alloc (Nat.le_refl _) _⟩
        · have hb := Dc.isD_iff.1 hc
          have b0 : (48 : Int) ≤ (((⟨l.toArray⟩ : ByteArray)[k]'hlt).toNat : Int) := by have := hb.1; show (48 : Int) ≤ (l[k].toNat : Int); omega
          have b1 : (((⟨l.toArray⟩ : ByteArray)[k]'hlt).toNat : Int) ≤ 57 := by have := hb.2; show (l[k].toNat : Int) ≤ 57; omega
          have HC := Lib.hid hc
          clear hc hb
          go_wp2
          go_roundw
          case rel => exact ⟨k + 1, by omega, rfl, Lib.hid (by rw [hn.out, HD.out, HC.out]; rfl)⟩
          case measure => simp; omega
      · have hdh := decode_high (⟨l.toArray⟩ : ByteArray) k hlt (by omega)
        have hf := Lib.hid (Dc.allD_snoc_false hlt (notD_high (c := l[k]) (Nat.not_lt.1 ha)))
        have hnx : ∀ ty, (Instr.next (.pointer (some ⟨w.heap.size, 0, none⟩)) true ty).run Tryd.prog (w.iter ⟨l.toArray⟩ k) = _ := fun ty => run_next_any w ⟨l.toArray⟩ k ty hlt
        have h57 : (57 : Int) < ((Utf8.decode (⟨l.toArray⟩ : ByteArray) k).1 : Int) := by have := hdh.1; omega
        clear hdh
        generalize Utf8.decode (⟨l.toArray⟩ : ByteArray) k = dk at *
        go_wp2
        go_ret
        exact ⟨ret_bool (by rw [hf.out]), (Below.refl _ _).alloc (Nat.le_refl _) _⟩
    · obtain rfl : k = l.length := by omega
      rw [List.take_length] at HD
      have hnx : ∀ ty, (Instr.next (.pointer (some ⟨w.heap.size, 0, none⟩)) true ty).run Tryd.prog (w.iter ⟨l.toArray⟩ l.length) = _ := fun ty => run_next_end w ⟨l.toArray⟩ l.length ty hlt
      go_wp2
      go_ret
      exact ⟨ret_bool (by unfold Dc.all; rw [HD.out]; cases l <;> simp), (Below.refl _ _).alloc (Nat.le_refl _) _⟩

set_option maxHeartbeats 400000 in
theorem extend_any (n : Nat) (hn : n ≤ 4611686018427387904) (l : List UInt8) (hD : Hid (Dc.allD l = true)) (w : World) :
    Calls Tryd.prog 80 #[.int .i64 n, .string ⟨l.toArray⟩] w fun e w' => e = .returned (.tuple #[.int .i64 (Dc.exN n l), .bool (Dc.exB n l)]) ∧ Below w.heap.size w w' := by
  go_enter Tryd.func80, Tryd.ntmps80
  go_wp2
  go_loopw [0] (fun n0 wr => ∃ (k : Nat) (x : Int), k ≤ l.length ∧ wr = w.iter ⟨l.toArray⟩ k ∧ n0 = .int .i64 x ∧ 0 ≤ x ∧ x ≤ 4611686018427387904 ∧ Hid (x = (Dc.numFrom n (l.take k) : Int))) (fun _ wr => l.length - wr.iterPos w.heap.size)
  case atStart => exact ⟨0, n, Nat.zero_le _, rfl, rfl, by omega, by omega, Lib.hid rfl⟩
  case round =>
    obtain ⟨k, x, hk, rfl, rfl, x0, x1, hx⟩ := hrel
    by_cases hlt : k < l.length
    · have hs := Lib.hid (Dc.numFrom_take_succ n l k hlt)
      have hb := Dc.isD_iff.1 (Dc.isD_of_allD hD.out k hlt)
      have b0 : (48 : Int) ≤ (((⟨l.toArray⟩ : ByteArray)[k]'hlt).toNat : Int) := by have := hb.1; show (48 : Int) ≤ (l[k].toNat : Int); omega
      have b1 : (((⟨l.toArray⟩ : ByteArray)[k]'hlt).toNat : Int) ≤ 57 := by have := hb.2; show (l[k].toNat : Int) ≤ 57; omega
      have ha : (((⟨l.toArray⟩ : ByteArray)[k]'hlt).toNat) < 128 := by have := hb.2; show l[k].toNat < 128; omega
      have hnx : ∀ ty, (Instr.next (.pointer (some ⟨w.heap.size, 0, none⟩)) true ty).run Tryd.prog (w.iter ⟨l.toArray⟩ k) = _ := fun ty => run_next_ascii w ⟨l.toArray⟩ k ty hlt ha
      have hd : Hid ((((⟨l.toArray⟩ : ByteArray)[k]'hlt).toNat : Int) = (l[k].toNat : Int)) := Lib.hid rfl
      clear hb ha
      generalize hc : (((⟨l.toArray⟩ : ByteArray)[k]'hlt).toNat : Int) = c at *
      clear hc
      by_cases hcap : x * 10 + (c - 48) ≤ 4611686018427387904
      · have hcap' : x ≤ (4611686018427387904 - (c - 48)) / 10 := by omega
        go_wp2
        go_roundw
        case rel =>
          refine ⟨k + 1, _, by omega, rfl, rfl, by omega, by omega, Lib.hid ?_⟩
          rw [hs.out]
          have := hx.out
          have := hd.out
          omega
        case measure => simp; omega
      · have hcap' : (4611686018427387904 - (c - 48)) / 10 < x := by omega
        have hno : Hid (Dc.exB n l = false ∧ Dc.exN n l = 0) := by
          apply Lib.hid
          apply Dc.ex_no (k := k + 1)
          rw [hs.out]
          have := hx.out
          have := hd.out
          omega
        go_wp2
        ((try simp only [Exit.inBlock, Exit.then]); refine bodyPost_ret (results_tmp2 rfl _ _ _) rfl ?_)
        exact ⟨ret2_ib hno.out.2.symm hno.out.1.symm, (Below.refl _ _).alloc (Nat.le_refl _) _⟩
    · obtain rfl : k = l.length := by omega
      rw [List.take_length] at hx
      have hnx : ∀ ty, (Instr.next (.pointer (some ⟨w.heap.size, 0, none⟩)) true ty).run Tryd.prog (w.iter ⟨l.toArray⟩ l.length) = _ := fun ty => run_next_end w ⟨l.toArray⟩ l.length ty hlt
      have hy : Hid (Dc.exB n l = true ∧ Dc.exN n l = Dc.numFrom n l) := Lib.hid (Dc.ex_yes (by have := hx.out; omega))
      go_wp2
      ((try simp only [Exit.inBlock, Exit.then]); refine bodyPost_ret (results_tmp2 rfl _ _ _) rfl ?_)
      exact ⟨ret2_ib (by rw [hy.out.2]; exact hx.out) hy.out.1.symm, (Below.refl _ _).alloc (Nat.le_refl _) _⟩

namespace Dc
theorem body_len (l : List UInt8) : (body l).length ≤ l.length := by unfold body; split <;> simp
theorem all_split {l : List UInt8} (h : all l = true) : allD l = true ∧ l ≠ [] := by
  unfold all at h; simpa using h
theorem num_ex (l : List UInt8) : numFrom 0 l = num l := rfl
theorem wh_no1 {l : List UInt8} (h : all (body l) = false) : whOk l = false ∧ whN l = 0 := by
  have h2 : whOk l = false := by unfold whOk; rw [h]; rfl
  exact ⟨h2, by unfold whN; rw [h2]; rfl⟩
theorem wh_ex {l : List UInt8} (h : all (body l) = true) : whOk l = exB 0 (body l) ∧ whN l = if minus l then -exN 0 (body l) else exN 0 (body l) := by
  have h2 : whOk l = exB 0 (body l) := by unfold whOk exB; rw [h]; rfl
  refine ⟨h2, ?_⟩
  unfold whN exN
  rw [h2, num_ex]
  cases exB 0 (body l) <;> cases minus l <;> rfl
theorem exN_le (n : Nat) (l : List UInt8) : 0 ≤ exN n l ∧ exN n l ≤ 4611686018427387904 := by
  unfold exN
  split
  · rename_i h
    unfold exB at h
    rw [decide_eq_true_eq] at h
    omega
  · omega
end Dc

end Go.Proofs.YtojmcndiooiehaaDoor
