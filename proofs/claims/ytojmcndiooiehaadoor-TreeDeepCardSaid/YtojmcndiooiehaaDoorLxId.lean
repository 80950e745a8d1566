/-
  CONTRACTS: chapter 14: Ident, on both sides.
-/
import Derived.Test.YtojmcndiooiehaaDoorLxByte
namespace Go.Proofs.YtojmcndiooiehaaDoor
open Go.RowKit
open Me

namespace Lx
theorem all_drop (p : UInt8 → Bool) (l : List UInt8) (k : Nat) (h : k < l.length) : (l.drop k).all p = (p l[k] && (l.drop (k + 1)).all p) := by
  rw [List.drop_eq_getElem_cons h, List.all_cons]
end Lx

set_option maxHeartbeats 2000000 in
theorem ident_any (l : List UInt8) (hl : l.length ≤ 4294967280) (w : World) :
    Calls Tryd.prog 28 #[.string ⟨l.toArray⟩] w fun e w' => e = .returned (.bool (Lx.identOf l)) ∧ w = w' := by
  have HI := Lib.hid fun c W => isOfIdent_any c W
  have HL := Lib.hid fun c W => isLetter_any c W
  have HR : Hid (Lx.identOf l = ((l.drop 0).all Lx.isI && Lx.headL l)) := Lib.hid rfl
  generalize Lx.identOf l = R at *
  go_enter Tryd.func28, Tryd.ntmps28
  go_wp2_with fail
  go_loopw [3, 6] (fun _ x wr => ∃ k : Nat, x = .int .i64 k ∧ k ≤ l.length ∧ Hid (R = ((l.drop k).all Lx.isI && Lx.headL l)) ∧ Hid (w = wr)) (fun _ x _ => l.length - (intOf x).toNat)
  case atStart => exact ⟨0, rfl, by omega, HR, Lib.hid rfl⟩
  case round =>
    obtain ⟨k, rfl, hk, HM, HW⟩ := hrel
    by_cases hlt : k < l.length
    · obtain ⟨a, ha⟩ : ∃ a, l[k] = a := ⟨_, rfl⟩
      have hget : l[k]? = some a := by rw [List.getElem?_eq_getElem hlt, ha]
      obtain ⟨z0, g0⟩ := Lx.byte_at hget
      have hkI : (k : Int) < (l.length : Int) := by omega
      have hk0 : (0 : Int) ≤ (k : Int) := by omega
      have HA := HI.out a
      have HA := Lib.hid HA
      have HM2 : Hid (R = (Lx.isI a && (l.drop (k + 1)).all Lx.isI && Lx.headL l)) := Lib.hid (by rw [HM.out, Lx.all_drop _ _ _ hlt, ha])
      clear hget ha HM
      generalize Lx.isI a = q at *
      cases q
      · go_wp2_with (go_at_call 47; go_must (refine (HA.out _).mono ?_; rintro e w2 ⟨rfl, rfl⟩))
        go_ret
        exact ⟨by rw [HM2.out]; simp, HW.out⟩
      · go_wp2_with (go_at_call 47; go_must (refine (HA.out _).mono ?_; rintro e w2 ⟨rfl, rfl⟩))
        go_roundw
        case rel => exact ⟨k + 1, by go_num, by omega, Lib.hid (by rw [HM2.out]; simp), HW⟩
        case measure => simp [intOf]; omega
    · obtain rfl : k = l.length := by omega
      have HM2 : Hid (R = Lx.headL l) := Lib.hid (by rw [HM.out, List.drop_length]; rfl)
      clear HM HR
      by_cases hn : l = []
      · have HM3 : Hid (R = false) := Lib.hid (by rw [HM2.out, hn]; rfl)
        have hne : (l == ([] : List UInt8)) = true := by rw [hn]; rfl
        have hne2 : (l != ([] : List UInt8)) = false := by rw [hn]; rfl
        clear hn HM2
        go_wp2_with fail
        go_ret
        exact ⟨by rw [HM3.out]; rfl, HW.out⟩
      · obtain ⟨c, r, hcr⟩ : ∃ c r, l = c :: r := by cases l with
          | nil => exact absurd rfl hn
          | cons c r => exact ⟨c, r, rfl⟩
        have hne : (l == ([] : List UInt8)) = false := by simpa using hn
        have hne2 : (l != ([] : List UInt8)) = true := by simpa using hn
        obtain ⟨z0, g0⟩ := Lx.byte_at (s := l) (i := 0) (c := c) (by rw [hcr]; rfl)
        have HA := Lib.hid (HL.out c)
        have HM3 : Hid (R = Lx.isL c) := Lib.hid (by rw [HM2.out, hcr]; rfl)
        have hlp : (0 : Int) < (l.length : Int) := by rw [hcr]; simp
        clear HM2 hcr hn
        generalize Lx.isL c = q at *
        go_wp2_with (go_at_call 48; go_must (refine (HA.out _).mono ?_; rintro e w2 ⟨rfl, rfl⟩))
        go_ret
        exact ⟨by rw [HM3.out]; rfl, HW.out⟩

end Go.Proofs.YtojmcndiooiehaaDoor
