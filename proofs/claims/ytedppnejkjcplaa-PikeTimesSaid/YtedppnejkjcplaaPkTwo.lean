/-
  CONTRACTS: chapter 12, laws: of and pike.Find where the program is known.
-/
import Derived.Test.YtedppnejkjcplaaPkStar
namespace Go.Proofs.Ytedppnejkjcplaa
open Go.RowKit Go.Sort
open Me
open Pk

theorem of_known {s : List UInt8} {g : Nat} {L : List Rx.In} (hs : Rc.Sm s) (hl : s.length ≤ 4096) (h : Rc.ofP s = (g, L, true)) (W : World) :
    Calls Try.prog 11 #[.string ⟨s.toArray⟩] W fun e W' => ∃ (A : Option Addr) (c : Nat), e = .returned (.tuple #[.agg #[.int .i64 (g : Int), .slice A L.length c], .bool true]) ∧ Below W.heap.size W W' ∧ Rd W' (fun _ => True) A (icells L) ∧ L.length ≤ 1024 := by
  refine (of_any set_sm (s := s) hs hl).mono ?_
  rintro e W' ⟨g', L', A, c, ok, rfl, hb, hr, hf, hq⟩
  have h := (hq hs).symm.trans h
  injection h with h1 h2
  injection h2 with h2 h3
  subst h1 h2 h3
  exact ⟨A, c, rfl, hb, hr.mono fun _ _ _ => trivial, hf.len⟩
theorem find_known {W : World} {A : Option Addr} {c : Nat} {g : Int} {L : List Rx.In} {t : List UInt8} {r : Row} (hr : Rd W (fun _ => True) A (icells L)) (hL : L.length ≤ 4096) (ht : t.length ≤ 1048576) (hf : findP g L t 0 = some r) :
    Calls Try.prog 13 #[.agg #[.int .i64 g, .slice A L.length c], .string ⟨t.toArray⟩, .int .i64 0] W fun e W' => ∃ A2 c2, e = .returned (.tuple #[.slice A2 r.length c2, .bool true]) ∧ Below W.heap.size W W' ∧ Rd W' (fun _ => True) A2 (iv r) := by
  refine (find_any hr hL ht).mono ?_
  rintro e W' ⟨v, bb, rfl, hb, hm⟩
  rw [hf] at hm
  obtain ⟨hm1, rfl, _⟩ := hm
  obtain ⟨A2, c2, rfl⟩ := own_form hm1
  exact ⟨A2, c2, rfl, hb, (Rd.own hm1).mono fun _ _ _ => trivial⟩
theorem two_known {W : World} {A : Option Addr} {c : Nat} {x y : Int} (hr : Rd W (fun _ => True) A (iv [x, y])) (N : Nat) (hN : N = W.heap.size) :
    Calls Try.prog 16 #[.slice A 2 c, .slice (some ⟨N, 0, none⟩) 2 2] (W.alloc (.cells #[.int .i64 x, .int .i64 y] 3)) fun e W' => e = .returned (.bool true) ∧ Below W.heap.size W W' := by
  subst hN
  refine (numbers_any (l1 := [x, y]) (l2 := [x, y]) (hr.below ((Below.refl _ _).alloc (Nat.le_refl _) _)) (Rd.fresh W (iv [x, y]) 3 _ rfl) (by show 2 ≤ 1048576; omega)).mono ?_
  rintro e W' ⟨rfl, hb⟩
  exact ⟨by simp, ((Below.refl _ _).alloc (Nat.le_refl _) _).trans (hb.mono (by simp))⟩
end Go.Proofs.Ytedppnejkjcplaa
