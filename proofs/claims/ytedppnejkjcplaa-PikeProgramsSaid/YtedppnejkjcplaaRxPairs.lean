/-
  CONTRACTS: chapter 11: the runs of a set.
-/
import Derived.Test.YtedppnejkjcplaaRxSet
import Derived.Test.YtedppnejkjcplaaRxLen
namespace Go.Proofs.Ytedppnejkjcplaa
open Go.RowKit
open Me

theorem byteinfo : (Try.prog.info? 5).map (fun i => (i.zero, i.size, i.bytes)) = some (some (.int .u8 0), 1, 1) := by kernel_rfl

namespace Rx
theorem of_nat (k : Nat) (h : k < 256) : ((UInt8.ofNat k).toNat : Int) = k := by rw [UInt8.toNat_ofNat', Nat.mod_eq_of_lt (by omega)]
theorem pairAt_is {s : St} {k : Nat} (hs : s k = true) (p q : Bool) (hp : (k = 0 ∨ s (k - 1) = false) ↔ p = true) (hq : (k = 255 ∨ s (k + 1) = false) ↔ q = true) : pairAt s k = (if p then [UInt8.ofNat k] else []) ++ (if q then [UInt8.ofNat k] else []) := by
  unfold pairAt
  rw [if_pos hs]
  congr 1
  · by_cases h : k = 0 ∨ s (k - 1) = false
    · rw [if_pos h, hp.1 h]; rfl
    · rw [if_neg h, if_neg (fun e => h (hp.2 e))]
  · by_cases h : k = 255 ∨ s (k + 1) = false
    · rw [if_pos h, hq.1 h]; rfl
    · rw [if_neg h, if_neg (fun e => h (hq.2 e))]
theorem own_push {base : Nat} {w : World} {v : Value} {L : List UInt8} {k : Nat} (hk : k < 256) (h : w.ownsRow base 5 1 v (L.length + 1) (by8 L ++ [.int .u8 (k : Int)])) : OwnB base w v (L ++ [UInt8.ofNat k]) := by
  refine own_more (m := 1) rfl ?_
  rw [show by8 [UInt8.ofNat k] = [.int .u8 (k : Int)] by unfold by8; rw [List.map_cons, List.map_nil, of_nat k hk]]
  exact h
end Rx

end Go.Proofs.Ytedppnejkjcplaa
