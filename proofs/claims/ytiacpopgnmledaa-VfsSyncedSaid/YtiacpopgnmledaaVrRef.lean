/-
  CONTRACTS: the document's own files (chapter 3): what is read.
-/
import Derived.Test.YtiacpopgnmledaaRows
import Derived.Test.YtiacpopgnmledaaMe
import Derived.Test.YtiacpopgnmledaaVrPure
import Derived.WalkKit
import Derived.WalkSpells
import Derived.WalkLawsBesides
import Derived.Deep.QuietTactic
import Derived.BigQuiet
import Derived.Lib.QuietBelow
import Derived.Lib.Hide
import Derived.Lib.Strings
namespace Go.Proofs.Ytiacpopgnmledaa
open Go.RowKit
open Me

theorem ret_i64 {a b : Int} (h : a = b) : Ending.returned (.int .i64 a) = .returned (.int .i64 b) := by rw [h]
theorem ret_bool {a b : Bool} (h : a = b) : Ending.returned (.bool a) = .returned (.bool b) := by rw [h]

namespace Vf
def FlC (w : World) (G : Nat → Prop) (f : Fl) (cs : List Value) : Prop := ∃ v, cs = [.string ⟨f.name.toArray⟩, v] ∧ Bs w G v f.b
theorem FlC.two {w : World} {G : Nat → Prop} : ∀ f cs, FlC w G f cs → cs.length = 2 := by
  rintro f cs ⟨v, rfl, _⟩; rfl
/-- A slice of files that reads as a list. -/
def Fs (w : World) (G : Nat → Prop) (v : Value) (l : List Fl) : Prop := ∃ A c xs, v = .slice A l.length c ∧ l.length ≤ c ∧ c ≤ maxLen ∧ Rd w G A xs ∧ Els (FlC w G) l xs
def is (n : List UInt8) : Bool := decide (1 ≤ n.length ∧ n.length ≤ 255)
end Vf

set_option maxHeartbeats 400000 in
theorem is_any (n : List UInt8) (w : World) :
    Calls Try.prog 49 #[.string ⟨n.toArray⟩] w fun e w' => e = .returned (.bool (Vf.is n)) ∧ w = w' := by
  by_cases h1 : (1 : Int) ≤ (n.length : Int)
  · by_cases h2 : (n.length : Int) ≤ 255
    · have H : Hid (Vf.is n = true) := Lib.hid (by unfold Vf.is; simp; omega)
      go_enter Try.func49, Try.ntmps49
      go_wp2
      go_ret
      exact ⟨ret_bool (by rw [H.out]), rfl⟩
    · have H : Hid (Vf.is n = false) := Lib.hid (by unfold Vf.is; simp; omega)
      go_enter Try.func49, Try.ntmps49
      go_wp2
      go_ret
      exact ⟨ret_bool (by rw [H.out]), rfl⟩
  · have H : Hid (Vf.is n = false) := Lib.hid (by unfold Vf.is; simp; omega)
    go_enter Try.func49, Try.ntmps49
    go_wp2
    go_ret
    exact ⟨ret_bool (by rw [H.out]), rfl⟩

set_option maxHeartbeats 400000 in
theorem find_any (l : List Vf.Fl) (n : List UInt8) (v : Value) (G : Nat → Prop) (w : World) (hf : Vf.Fs w G v l) (hl : l.length ≤ 1048576) :
    Calls Try.prog 50 #[v, .string ⟨n.toArray⟩] w fun e w' => e = .returned (.int .i64 (Vf.ix l n)) ∧ w = w' := by
  obtain ⟨A, c, xs, rfl, hc, hcm, hrd, hels⟩ := hf
  unfold maxLen at hcm
  have hl' : (l.length : Int) ≤ 1048576 := by omega
  have HE := Lib.hid hels
  have HR := Lib.hid hrd
  clear hels hrd
  go_enter Try.func50, Try.ntmps50
  go_wp2_with fail
  go_loop [5] (fun i => ∃ k : Nat, k ≤ l.length ∧ i = .int .i64 k ∧ Hid (∀ i (h : i < l.length), i < k → (l[i].name == n) = false)) (fun i => l.length - (intOf i).toNat)
  case atStart => exact ⟨0, Nat.zero_le _, rfl, Lib.hid (fun i _ h => absurd h (by omega))⟩
  case round =>
    obtain ⟨k, hk, rfl, hn⟩ := hrel
    by_cases hlt : k < l.length
    · obtain ⟨cs, ⟨v, rfl, hbs⟩, hx⟩ := HE.out.get Vf.FlC.two k hlt
      have hxl := HE.out.length Vf.FlC.two
      obtain ⟨ad, rfl, hlt2, hg, hcell⟩ := HR.out.at_ (k * 2) (by omega)
      have hcl : w.cell? (ad.add (k * 2)) = some (.string ⟨(l[k].name).toArray⟩) := hcell _ _ (hx 0 (by omega))
      clear hx hxl hcell hbs
      cases hb : (l[k].name == n)
      · have HB : Hid ((l[k].name == n) = false) := Lib.hid hb
        go_wp2_with fail
        go_round
        case rel =>
          refine ⟨k + 1, by omega, by go_num, Lib.hid (fun i hi hik => ?_)⟩
          by_cases e : i = k
          · subst e; exact HB.out
          · exact hn.out i hi (by omega)
        case measure => simp [intOf]; omega
      · have HB : Hid ((l[k].name == n) = true) := Lib.hid hb
        go_wp2_with fail
        go_ret
        exact ⟨ret_i64 (Vf.ix_hit hlt hn.out HB.out).symm, rfl⟩
    · obtain rfl : k = l.length := by omega
      go_wp2_with fail
      go_ret
      exact ⟨ret_i64 (Vf.ix_miss hn.out).symm, rfl⟩

end Go.Proofs.Ytiacpopgnmledaa
