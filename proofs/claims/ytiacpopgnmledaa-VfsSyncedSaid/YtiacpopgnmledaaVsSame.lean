/-
  CONTRACTS: chapter 3's law: two rows of bytes; the document's files where there is no such room.
-/
import Derived.Test.YtiacpopgnmledaaVrTell
import Derived.RegionTactic
namespace Go.Proofs.Ytiacpopgnmledaa
open Go.RowKit
open Me

namespace Vf
theorem eq_of_all {a b : List UInt8} (hl : a.length = b.length) (h : ∀ i (ha : i < a.length) (hb : i < b.length), a[i] = b[i]) : (a == b) = true := by
  have : a = b := List.ext_getElem hl (fun i h1 h2 => h i h1 h2)
  rw [this]
  simp
theorem ne_of_one {a b : List UInt8} {i : Nat} (ha : i < a.length) (hb : i < b.length) (h : a[i] ≠ b[i]) : (a == b) = false := by
  apply beq_false_of_ne
  rintro rfl
  exact h rfl
theorem ne_of_len {a b : List UInt8} (h : a.length ≠ b.length) : (a == b) = false := by
  apply beq_false_of_ne
  rintro rfl
  exact h rfl
end Vf

theorem new_no (room : Int) (w : World) (hr : room < 0 ∨ 1073741824 < room) :
    Calls Try.prog 8 #[.int .i64 room] w fun e w' => e = .returned (.tuple #[.pointer none, .int .i64 1]) ∧ w = w' := by
  by_cases h0 : room < 0
  · clear hr
    go_enter Try.func8, Try.ntmps8
    go_wp2_with fail
    ((try simp only [Exit.inBlock, Exit.then]); refine bodyPost_ret (results_tmp2 rfl _ _ _) rfl ?_)
    exact ⟨rfl, rfl⟩
  · have h1 : 1073741824 < room := by omega
    clear hr
    go_enter Try.func8, Try.ntmps8
    go_wp2_with fail
    ((try simp only [Exit.inBlock, Exit.then]); refine bodyPost_ret (results_tmp2 rfl _ _ _) rfl ?_)
    exact ⟨rfl, rfl⟩

set_option maxHeartbeats 800000 in
theorem same_any (a b : List UInt8) (av bv : Value) (G I : Nat → Prop) (w : World) (ha : Bs w G av a) (hb : Bs w I bv b) (la : a.length ≤ 4294967296) :
    Calls Try.prog 21 #[av, bv] w fun e w' => e = .returned (.bool (a == b)) ∧ Below w.heap.size w w' := by
  obtain ⟨A1, n1, rfl, hc1, hcm1, hrd1⟩ := ha
  obtain ⟨A2, n2, rfl, hc2, hcm2, hrd2⟩ := hb
  unfold maxLen at hcm1 hcm2
  have H1 := Lib.hid hrd1
  have H2 := Lib.hid hrd2
  clear hrd1 hrd2
  by_cases hl : a.length = b.length
  · have hL := Lib.hid hl
    have hlb : (a.length : Int) = (b.length : Int) := by omega
    go_enter Try.func21, Try.ntmps21
    go_wp2_with fail
    go_loopw [5] (fun i wr => ∃ k : Nat, k ≤ a.length ∧ i = .int .i64 k ∧ Hid (∀ i (ha : i < a.length) (hb : i < b.length), i < k → a[i] = b[i]) ∧ Below w.heap.size w wr) (fun i _ => a.length - (intOf i).toNat)
    case atStart => exact ⟨0, Nat.zero_le _, rfl, Lib.hid (fun i _ _ h => absurd h (by omega)), Below.refl _ _⟩
    case round =>
      obtain ⟨k, hk, rfl, hn, hbel⟩ := hrel
      by_cases hlt : k < a.length
      · have hlt2 : k < b.length := by omega
        obtain ⟨r1, o1, rfl, g1, _, hx1⟩ := H1.out.lit k (by rw [by8_len]; omega)
        obtain ⟨r2, o2, rfl, g2, _, hx2⟩ := H2.out.lit k (by rw [by8_len]; omega)
        have d1 : wr.cell? ⟨r1, o1 + k, none⟩ = some (.int .u8 (a[k].toNat : Int)) := (hbel.cell (p := ⟨r1, o1 + k, none⟩) g1).trans (hx1 k _ (by8_get a k hlt))
        have d2 : wr.cell? ⟨r2, o2 + k, none⟩ = some (.int .u8 (b[k].toNat : Int)) := (hbel.cell (p := ⟨r2, o2 + k, none⟩) g2).trans (hx2 k _ (by8_get b k hlt2))
        clear hx1 hx2
        by_cases he : a[k] = b[k]
        · have HE := Lib.hid he
          have hb1 : (a[k].toNat == b[k].toNat) = true := by rw [he]; simp
          have hb2 : (a[k].toNat != b[k].toNat) = false := by rw [he]; simp
          have hb3 : ((a[k].toNat : Int) == (b[k].toNat : Int)) = true := by rw [he]; simp
          have hb4 : ((a[k].toNat : Int) != (b[k].toNat : Int)) = false := by rw [he]; simp
          have hb5 : a[k].toNat = b[k].toNat := by rw [he]
          clear he
          generalize a[k].toNat = p at *
          generalize b[k].toNat = q at *
          go_wp2_with fail
          go_region
          all_goals
            go_wp2_with fail
            go_roundw
            case rel =>
              refine ⟨k + 1, by omega, by go_num, Lib.hid (fun i h1 h2 hik => ?_), hbel.drew⟩
              by_cases e : i = k
              · subst e; exact HE.out
              · exact hn.out i h1 h2 (by omega)
            case measure => simp [intOf]; omega
        · have HR := Lib.hid (Vf.ne_of_one hlt hlt2 he)
          have hne : a[k].toNat ≠ b[k].toNat := fun h => he (UInt8.toNat_inj.1 h)
          have hb1 : (a[k].toNat == b[k].toNat) = false := by simpa using hne
          have hb2 : (a[k].toNat != b[k].toNat) = true := by simpa using hne
          have hb3 : ((a[k].toNat : Int) == (b[k].toNat : Int)) = false := by simp; omega
          have hb4 : ((a[k].toNat : Int) != (b[k].toNat : Int)) = true := by simp; omega
          clear he
          generalize a[k].toNat = p at *
          generalize b[k].toNat = q at *
          go_wp2_with fail
          go_region
          all_goals
            go_wp2_with fail
            go_ret
            exact ⟨ret_bool HR.out.symm, hbel.drew⟩
      · obtain rfl : k = a.length := by omega
        have HR := Lib.hid (Vf.eq_of_all hL.out (fun i h1 h2 => hn.out i h1 h2 h1))
        go_wp2_with fail
        go_ret
        exact ⟨ret_bool HR.out.symm, hbel⟩
  · have HR := Lib.hid (Vf.ne_of_len hl)
    have hlb : ¬ (a.length : Int) = (b.length : Int) := by omega
    go_enter Try.func21, Try.ntmps21
    go_wp2_with fail
    go_ret
    exact ⟨ret_bool HR.out.symm, Below.refl _ _⟩

end Go.Proofs.Ytiacpopgnmledaa
