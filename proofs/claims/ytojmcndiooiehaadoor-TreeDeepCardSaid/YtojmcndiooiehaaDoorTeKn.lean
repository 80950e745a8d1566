/-
  CONTRACTS: chapter 15: the law's known.
-/
import Derived.Test.YtojmcndiooiehaaDoorTePrt
namespace Go.Proofs.YtojmcndiooiehaaDoor
open Go.RowKit Go.Sort
open Me

namespace Te
def knownT : List UInt8 := [115, 99, 97, 108, 101, 40, 32, 97, 46, 42, 32, 44, 32, 49, 46, 53, 48, 41]
def knownP : List UInt8 := [115, 99, 97, 108, 101, 40, 97, 46, 42, 44, 49, 46, 53, 41]
def knownK : List Nd := [.mk 2 [97, 46, 42] 0 [], .mk 3 [] 1500000 []]
def knownS : List UInt8 := [115, 99, 97, 108, 101]
set_option maxRecDepth 100000 in
theorem known_parse : parseS knownT = .ok (.mk 1 knownS 0 knownK) := by kernel_rfl
set_option maxRecDepth 100000 in
theorem known_print : printS (.mk 1 knownS 0 knownK) = knownP := by kernel_rfl
set_option maxRecDepth 100000 in
theorem known_wt : wt (.mk 1 knownS 0 knownK) ≤ 1048576 := by decide +kernel
end Te

set_option maxRecDepth 100000 in
set_option maxHeartbeats 4000000 in
theorem known15_any (w : World) :
    Calls Tryd.prog 4 #[] w fun e w' => e = .returned (.bool true) ∧ Below w.heap.size w w' := by
  have HP : Hid (Calls Tryd.prog 5 #[.string ⟨#[115, 99, 97, 108, 101, 40, 32, 97, 46, 42, 32, 44, 32, 49, 46, 53, 48, 41]⟩] w fun e w' => ∃ v, e = .returned (.tuple #[.agg #[.int .i64 1, .string ⟨Te.knownS.toArray⟩, .int .i64 0, v], .int .i64 0]) ∧ Te.At w' (fun i => w.heap.size ≤ i) (.mk 1 Te.knownS 0 Te.knownK) v ∧ Below w.heap.size w w') := Lib.hid (by
    refine (tparse_any Te.knownT (by decide) w).mono ?_
    rintro e w' ⟨⟨k, s, n, ks, v, er, he, hr⟩, hb⟩
    rcases hr with ⟨rfl, h1, h2⟩ | ⟨_, h1, _⟩
    · rw [Te.known_parse] at h1
      injection h1 with h1
      rw [← h1] at h2
      injection h1 with e1 e2 e3 e4
      exact ⟨v, by rw [he, ← e1, ← e2, ← e3], h2, hb⟩
    · rw [Te.known_parse] at h1
      cases h1)
  have HPR : Hid (∀ W v, Te.At W (fun i => w.heap.size ≤ i) (.mk 1 Te.knownS 0 Te.knownK) v → Calls Tryd.prog 8 #[.agg #[.int .i64 1, .string ⟨Te.knownS.toArray⟩, .int .i64 0, v]] W fun e w' => e = .returned (.string ⟨#[115, 99, 97, 108, 101, 40, 97, 46, 42, 44, 49, 46, 53, 41]⟩) ∧ Below W.heap.size W w') := Lib.hid fun W v h => by
    have := tprint_any _ Te.known_wt v W h
    rw [Te.known_print] at this
    exact this
  generalize Te.knownS = ks at *
  generalize hK : Te.knownK = kk at *
  go_enter Tryd.func4, Tryd.ntmps4
  go_wp2_with fail
  go_at_call 5
  refine HP.out.mono ?_
  rintro e w1 ⟨v, rfl, hat, hb⟩
  have HB1 := Lib.hid hb
  obtain ⟨A, c, xs, rfl, _, _⟩ := hat.form
  have HA := Lib.hid hat
  clear hb hat
  go_wp2_with (go_at_call 8; go_must (refine (HPR.out _ _ (HA.out.below ((Below.refl _ _).alloc (Nat.le_refl _) _))).mono ?_; rintro e w2 ⟨rfl, hb2⟩; have HB2 : Hid (Below w.heap.size w w2) := Lib.hid ((HB1.out.alloc HB1.out.size _).trans (hb2.mono (by have := HB1.out.size; simp; omega))); clear hb2))
  go_ret
  exact ⟨rfl, HB2.out⟩
end Go.Proofs.YtojmcndiooiehaaDoor
