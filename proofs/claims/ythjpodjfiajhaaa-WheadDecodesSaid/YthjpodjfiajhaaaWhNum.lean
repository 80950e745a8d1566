/-
  CONTRACTS: four bytes as a number: the program's number, the document's FromFour.
-/
import Derived.Test.YthjpodjfiajhaaaWhPut
import Derived.Laws.BitsLemmas
namespace Go.Proofs.Ythjpodjfiajhaaa
open Go.RowKit Go.Sort
open Me

set_option maxHeartbeats 1000000 in
theorem number_lit (b off n cap : Nat) (c0 c1 c2 c3 : Nat) (w : World) (hn : 4 ≤ n) (k0 : c0 < 256) (k1 : c1 < 256) (k2 : c2 < 256) (k3 : c3 < 256)
    (e0 : w.cell? ⟨b, off, none⟩ = some (.int .u8 c0)) (e1 : w.cell? ⟨b, off + 1, none⟩ = some (.int .u8 c1)) (e2 : w.cell? ⟨b, off + 2, none⟩ = some (.int .u8 c2)) (e3 : w.cell? ⟨b, off + 3, none⟩ = some (.int .u8 c3)) :
    Calls Try.prog 19 #[.slice (some ⟨b, off, none⟩) n cap] w fun e w' => e = .returned (.int .i64 ((c0 : Int) * 16777216 + c1 * 65536 + c2 * 256 + c3)) ∧ ∃ m, w' = w.drewN m := by
  have HJ := Lib.hid (Wh.join4 c0 c1 c2 c3 k0 k1 k2 k3)
  go_enter Try.func19, Try.ntmps19
  go_wp2_with fail
  go_quiet (fail)
  go_wp2
  go_ret
  exact ⟨by rw [← HJ.out]; rfl, _, rfl⟩
theorem number_dr (L : List UInt8) (i b off n cap : Nat) (w : World) (h : By w b off L) (hi : i + 4 ≤ L.length) (hn : 4 ≤ n) :
    Calls Try.prog 19 #[.slice (some ⟨b, off + i, none⟩) n cap] w fun e w' => e = .returned (.int .i64 (Wh.nm L i)) ∧ ∃ m, w' = w.drewN m :=
  number_lit b (off + i) n cap _ _ _ _ w hn (Wh.by_lt L i) (Wh.by_lt L (i + 1)) (Wh.by_lt L (i + 2)) (Wh.by_lt L (i + 3)) (h.at_ i (by omega)) (h.at_ (i + 1) (by omega)) (h.at_ (i + 2) (by omega)) (h.at_ (i + 3) (by omega))
theorem number_any (L : List UInt8) (i b off n cap : Nat) (w : World) (h : By w b off L) (hi : i + 4 ≤ L.length) (hn : 4 ≤ n) :
    Calls Try.prog 19 #[.slice (some ⟨b, off + i, none⟩) n cap] w fun e w' => e = .returned (.int .i64 (Wh.nm L i)) ∧ Below w.heap.size w w' :=
  (number_dr L i b off n cap w h hi hn).mono fun _ _ ⟨he, _, hm⟩ => ⟨he, hm ▸ ⟨rfl, rfl, rfl, Nat.le_refl _, fun _ _ => rfl⟩⟩


end Go.Proofs.Ythjpodjfiajhaaa
