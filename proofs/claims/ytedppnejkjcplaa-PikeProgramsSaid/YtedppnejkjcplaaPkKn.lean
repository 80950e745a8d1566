/-
  CHAPTER 12, LAWS: known: what the program finds for one expression, evaluated by fuel; then the law's own walk.
-/
import Derived.Test.YtedppnejkjcplaaPkOf
import Derived.Test.YtedppnejkjcplaaPkFind
import Derived.Test.YtedppnejkjcplaaPkLawA
import Derived.Test.YtedppnejkjcplaaPkGrp
namespace Go.Proofs.Ytedppnejkjcplaa
open Go.RowKit Go.Sort
open Me
open Pk

namespace Pk
open Rx (In)
/-- One path behind the other, by fuel. -/
def dfsF (L : List In) (t : List UInt8) : Nat → Seen → List Ent → Option (Option Row)
  | 0, _, _ => none
  | _ + 1, _, [] => some none
  | n + 1, S, (h, k, r) :: l => match fetch L h with
    | none => dfsF L t n S l
    | some x => if (S h.toNat k || decide (t.length < k)) = true then dfsF L t n S l else match act t k x h r with
      | .dead => dfsF L t n (see S h.toNat k) l
      | .hit => some (some r)
      | .next => dfsF L t n (see S h.toNat k) ((h + 1, k + 1, r) :: l)
      | .go m => dfsF L t n (see S h.toNat k) (m.map (fun e => (e.1, k, e.2)) ++ l)
theorem dfsF_ok {L : List In} {t : List UInt8} : ∀ (n : Nat) (S : Seen) (l : List Ent) (x : Option Row), dfsF L t n S l = some x → (dfs L t S l).1 = x
  | 0, _, _, _, h => by cases h
  | n + 1, S, [], x, h => by
    rw [dfs_nil]
    exact Option.some.inj h
  | n + 1, S, (hd, k, r) :: l, x, h => by
    unfold dfsF at h
    cases hf : fetch L hd with
    | none =>
      rw [hf] at h
      rw [dfs_out hf]
      exact dfsF_ok n S l x h
    | some y =>
      rw [hf] at h
      by_cases hs : (S hd.toNat k || decide (t.length < k)) = true
      · have h : dfsF L t n S l = some x := by simpa [hs] using h
        rw [dfs_seen (by simpa using hs)]
        exact dfsF_ok n S l x h
      · have hs2 : S hd.toNat k = false ∧ k ≤ t.length := by simpa using hs
        rw [dfs_act hf hs2.1 hs2.2]
        simp only [hs, if_false] at h
        cases ha : act t k y hd r with
        | dead => rw [ha] at h; exact dfsF_ok n _ _ x h
        | hit => rw [ha] at h; exact Option.some.inj h
        | next => rw [ha] at h; exact dfsF_ok n _ _ x h
        | go m => rw [ha] at h; exact dfsF_ok n _ _ x h
def firstF (L : List In) (t : List UInt8) (w f : Nat) : Nat → Nat → Option (Option Row)
  | _, 0 => some none
  | k, n + 1 => match dfsF L t f nothing [(0, k, blank w)] with
    | none => none
    | some none => firstF L t w f (k + 1) n
    | some (some r) => some (some r)
theorem firstF_ok {L : List In} {t : List UInt8} {w f : Nat} : ∀ (n k : Nat) (x : Option Row), firstF L t w f k n = some x → first L t w k n = x
  | 0, _, x, h => Option.some.inj h
  | n + 1, k, x, h => by
    unfold firstF at h
    unfold first walk
    cases hd : dfsF L t f nothing [(0, k, blank w)] with
    | none => rw [hd] at h; cases h
    | some y =>
      rw [dfsF_ok f _ _ y hd]
      rw [hd] at h
      cases y with
      | none => exact firstF_ok n (k + 1) x h
      | some r => exact Option.some.inj h
theorem findP_fuel {g : Nat} {L : List In} {t : List UInt8} (f : Nat) {x : Option Row} (hg : g ≤ 1024) (h : firstF L t (2 * g + 2) f 0 (t.length + 1) = some x) : findP (g : Int) L t 0 = x := by
  unfold findP
  rw [if_neg (by omega)]
  have := firstF_ok _ _ _ h
  simpa using this
/-- The expression of known. -/
def kx : List UInt8 := [40, 97, 124, 97, 98, 41, 40, 99, 124, 98, 99, 100, 41]
theorem kx_of : Rc.ofP kx = (2, (Rc.ofP kx).2.1, true) := by decide +kernel
theorem kx_found : findP 2 (Rc.ofP kx).2.1 [97, 98, 99, 100] 0 = some [0, 4, 0, 1, 1, 4] := findP_fuel (g := 2) 400 (by omega) (by decide +kernel)
theorem kx_sm : Rc.Sm kx := by unfold Rc.Sm kx; decide
end Pk

set_option maxRecDepth 100000 in
set_option maxHeartbeats 8000000 in
theorem known12_any (W : World) : Calls Try.prog 12 #[] W fun e W' => e = .returned (.bool true) ∧ Below W.heap.size W W' := by
  have HO : Hid (Calls Try.prog 11 #[.string ⟨#[40, 97, 124, 97, 98, 41, 40, 99, 124, 98, 99, 100, 41]⟩] W fun e W' => ∃ (A : Option Addr) (c : Nat), e = .returned (.tuple #[.agg #[.int .i64 2, .slice A (Rc.ofP kx).2.1.length c], .bool true]) ∧ Below W.heap.size W W' ∧ Rd W' (fun _ => True) A (icells (Rc.ofP kx).2.1) ∧ (Rc.ofP kx).2.1.length ≤ 1024) := Lib.hid (by
    refine (of_any set_sm (s := kx) kx_sm (by decide)).mono ?_
    rintro e W' ⟨g, L, A, c, ok, rfl, hb, hr, hf, hq⟩
    have h := (hq kx_sm).symm.trans kx_of
    injection h with h1 h2
    injection h2 with h2 h3
    subst h1 h2 h3
    exact ⟨A, c, rfl, hb, hr.mono fun _ _ _ => trivial, hf.len⟩)
  obtain ⟨L, hL⟩ : ∃ L, L = (Rc.ofP kx).2.1 := ⟨_, rfl⟩
  have HF := Lib.hid kx_found
  rw [← hL] at HO HF
  clear hL
  go_enter Try.func12, Try.ntmps12
  go_wp2_with first
    | (go_at_call 11; go_must (refine HO.out.mono ?_; rintro e w1 ⟨A, c, rfl, hb1, hr1, hl1⟩; have HB1 := Lib.hid hb1; have hsz1 := hb1.size; have HB2 : Hid (Below W.heap.size W (w1.alloc (.cells #[.int .i64 2, .slice A L.length c] 24))) := Lib.hid (hb1.alloc hsz1 _); have HFD : Hid (Calls Try.prog 13 #[.agg #[.int .i64 2, .slice A L.length c], .string ⟨#[97, 98, 99, 100]⟩, .int .i64 0] (w1.alloc (.cells #[.int .i64 2, .slice A L.length c] 24)) fun e W' => ∃ A2 c2, e = .returned (.tuple #[.slice A2 6 c2, .bool true]) ∧ Below (w1.alloc (.cells #[.int .i64 2, .slice A L.length c] 24)).heap.size (w1.alloc (.cells #[.int .i64 2, .slice A L.length c] 24)) W' ∧ Rd W' (fun _ => True) A2 (iv [0, 4, 0, 1, 1, 4])) := Lib.hid (by { refine (find_any (G := 2) (t := [97, 98, 99, 100]) (fr := 0) (hr1.below ((Below.refl _ _).alloc (Nat.le_refl _) _)) (by omega) (by decide)).mono ?_; rintro e W' ⟨v, bb, rfl, hb, hm⟩; rw [HF.out] at hm; obtain ⟨hm1, rfl, _⟩ := hm; obtain ⟨A2, c2, rfl⟩ := own_form hm1; exact ⟨A2, c2, rfl, hb, (Rd.own hm1).mono fun _ _ _ => trivial⟩ }); clear hb1 hr1))
    | (go_at_call 13; go_must (refine HFD.out.mono ?_; rintro e w2 ⟨A2, c2, rfl, hb2, hr2⟩; have HB3 := Lib.hid (HB2.out.trans (hb2.mono HB2.out.size)); have HR2 := Lib.hid hr2; have HNM : Hid (Calls Try.prog 16 #[.slice A2 6 c2, .slice (some ⟨w2.heap.size, 0, none⟩) 6 6] (w2.alloc (.cells #[.int .i64 0, .int .i64 4, .int .i64 0, .int .i64 1, .int .i64 1, .int .i64 4] 3)) fun e W' => e = .returned (.bool true) ∧ Below (w2.alloc (.cells #[.int .i64 0, .int .i64 4, .int .i64 0, .int .i64 1, .int .i64 1, .int .i64 4] 3)).heap.size (w2.alloc (.cells #[.int .i64 0, .int .i64 4, .int .i64 0, .int .i64 1, .int .i64 1, .int .i64 4] 3)) W') := Lib.hid (by { refine (numbers_any (l1 := [0, 4, 0, 1, 1, 4]) (l2 := [0, 4, 0, 1, 1, 4]) (hr2.below ((Below.refl _ _).alloc (Nat.le_refl _) _)) (Rd.fresh w2 (iv [0, 4, 0, 1, 1, 4]) 3 _ rfl) (by decide)).mono ?_; rintro e W' ⟨rfl, hb⟩; exact ⟨rfl, hb⟩ }); clear hb2 hr2))
    | (go_at_call 16; go_must (refine HNM.out.mono ?_; rintro e w3 ⟨rfl, hb3⟩; have HB4 := Lib.hid (((HB3.out.alloc HB3.out.size _).trans (hb3.mono (by have := HB3.out.size; simp; omega)))); clear hb3))
  go_ret
  exact ⟨rfl, HB4.out⟩

set_option maxHeartbeats 4000000 in
theorem lawGroups12 {W : World} {G : Nat → Prop} {A : Option Addr} {cp : Nat} (t : List UInt8) (pl : List Int) (k : Int) (hr : Rd W G A (iv pl)) (hk : -9223372036854775808 ≤ k ∧ k ≤ 9223372036854775807) :
    Calls Try.prog 5 #[.string ⟨t.toArray⟩, .slice A pl.length cp, .int .i64 k] W fun e W' => e = .returned (.bool true) ∧ Below W.heap.size W W' := by
  have HK := Lib.hid fun W => known12_any W
  by_cases h1 : 60 < t.length
  · have h1I : (60 : Int) < (t.length : Int) := by omega
    go_enter Try.func5, Try.ntmps5
    go_wp2_with fail
    go_ret
    exact ⟨rfl, Below.refl _ _⟩
  by_cases h2 : 60 < pl.length
  · have h1I : ¬ (60 : Int) < (t.length : Int) := by omega
    have h2I : (60 : Int) < (pl.length : Int) := by omega
    go_enter Try.func5, Try.ntmps5
    go_wp2_with fail
    go_ret
    exact ⟨rfl, Below.refl _ _⟩
  have h1I : ¬ (60 : Int) < (t.length : Int) := by omega
  have h2I : ¬ (60 : Int) < (pl.length : Int) := by omega
  have HG := Lib.hid (group_any hr (cp := cp) (t := t) (by omega) (by omega) hk)
  have HR : Hid (∀ W2, Below W.heap.size W W2 → Calls Try.prog 20 #[.string ⟨t.toArray⟩, .slice A pl.length cp, .int .i64 k] W2 fun e W' => e = .returned (.string ⟨(Pk.grp t pl k).toArray⟩) ∧ Below W2.heap.size W2 W') := Lib.hid fun W2 hb => refGroup_any (hr.below hb) (by omega) (by omega) hk
  obtain ⟨R, hR⟩ : ∃ R, R = Pk.grp t pl k := ⟨_, rfl⟩
  rw [← hR] at HG HR
  clear hr hR
  go_enter Try.func5, Try.ntmps5
  go_wp2_with first
    | (go_at_call 19; go_must (refine HG.out.mono ?_; rintro e w1 ⟨rfl, hb1⟩; have HB1 := Lib.hid hb1; clear hb1))
    | (go_at_call 20; go_must (refine (HR.out _ HB1.out).mono ?_; rintro e w2 ⟨rfl, hb2⟩; have HB2 := Lib.hid (HB1.out.trans (hb2.mono HB1.out.size)); clear hb2))
    | (go_at_call 12; go_must (refine (HK.out _).mono ?_; rintro e w3 ⟨rfl, hb3⟩; have HB3 := Lib.hid (HB2.out.trans (hb3.mono HB2.out.size)); clear hb3))
  go_ret
  exact ⟨rfl, HB3.out⟩
theorem lawGroups12r (t : List UInt8) (pl : List Int) (A : Option Addr) (cp : Nat) (k : Int) (h1 : -9223372036854775808 ≤ k) (h2 : k ≤ 9223372036854775807) (W : World) (hr : Rd W (fun _ => True) A (iv pl)) :
    Calls Try.prog 5 #[.string ⟨t.toArray⟩, .slice A pl.length cp, .int .i64 k] W fun e W' => e = .returned (.bool true) ∧ Below W.heap.size W W' := lawGroups12 t pl k hr ⟨h1, h2⟩
end Go.Proofs.Ytedppnejkjcplaa
