/-
  SbKn: CHAPTER 13, LAWS: known: what All answers at one expression, template and text; SubstExpands.
  PkIv: INTS THAT COME IN (chapter 12), AS DATA: a slice of ints, nil ones too, is a list.
-/
import Derived.Test.YtelbabgkpflckaaK6
import Derived.Test.YtelbabgkpflckaaK7
import Derived.Test.YtelbabgkpflckaaJ35
import Derived.Test.YtelbabgkpflckaaJ5
import Derived.Deep.Slices
import Derived.ProofKit
import Derived.OpenShut
import Derived.ChangeOld
import Derived.Lib.SmallJoins
import Derived.ChangeArms

set_option linter.unusedSimpArgs false
set_option linter.unusedVariables false
namespace Go.Proofs.Ytelbabgkpflckaa
open Go.RowKit Go.Sort
open Me
open Pk

namespace Sb
/-- From a place on, by fuel. -/
theorem findP_at {g : Nat} {L : List Rx.In} {t : List UInt8} (f k : Nat) {x : Option Row} (hk : k ≤ t.length) (hg : g ≤ 1024) (h : firstF L t (2 * g + 2) f k (t.length + 1 - k) = some x) : findP (g : Int) L t (k : Int) = x := by
  unfold findP
  rw [if_neg (by omega)]
  have := firstF_ok _ _ _ h
  simpa using this
def kt : List UInt8 := [98, 97, 97, 99]
def kF : Nat → Option Row := Fd 0 starL kt
theorem k0 : kF 0 = some [0, 0] := findP_at (g := 0) (t := kt) 100 0 (by decide) (by decide) (by decide +kernel)
theorem k1 : kF 1 = some [1, 3] := findP_at (g := 0) (t := kt) 100 1 (by decide) (by decide) (by decide +kernel)
theorem k3 : kF 3 = some [3, 3] := findP_at (g := 0) (t := kt) 100 3 (by decide) (by decide) (by decide +kernel)
theorem k4 : kF 4 = some [4, 4] := findP_at (g := 0) (t := kt) 100 4 (by decide) (by decide) (by decide +kernel)
theorem known_al : al kF kt [120] 0 = [120, 98, 120, 120, 99, 120] := by
  rw [al_step (by decide), stp_some k0 (by decide)]
  rw [show nxt [0, 0] = 1 by decide, al_step (by decide), stp_some k1 (by decide)]
  rw [show nxt [1, 3] = 3 by decide, al_step (by decide), stp_some k3 (by decide)]
  rw [show nxt [3, 3] = 4 by decide, al_step (by decide), stp_some k4 (by decide)]
  rw [show nxt [4, 4] = 5 by decide, al_end (by decide)]
  decide
theorem star_sm : Rc.Sm starE := by unfold Rc.Sm starE; decide
end Sb

set_option maxRecDepth 100000 in
set_option maxHeartbeats 8000000 in
theorem known13_any (W : World) : Calls Try.prog 19 #[] W fun e W' => e = .returned (.bool true) ∧ Below W.heap.size W W' := by
  have HO : Hid (Calls Try.prog 20 #[.string ⟨#[97, 42]⟩] W fun e W' => ∃ (A : Option Addr) (c : Nat) (A1 : Option Addr) (c1 : Nat), e = .returned (.tuple #[.agg #[.int .i64 0, .slice A starL.length c], .agg #[.int .i64 0, .slice A1 starL.length c1], .bool true]) ∧ Below W.heap.size W W' ∧ Rd W' (fun _ => True) A (icells starL)) := Lib.hid (by
    refine (of3_any set_any (s := starE) trivial (by decide)).mono ?_
    rintro e W' ⟨g, L, A, c, A1, c1, ok, rfl, hb, hr, hr1, hf, hq⟩
    have h := (hq Sb.star_sm).symm.trans star_of
    injection h with h1 h2
    injection h2 with h2 h3
    subst h1 h2 h3
    exact ⟨A, c, A1, c1, rfl, hb, hr.mono fun _ _ _ => trivial⟩)
  have HA : Hid (∀ X (A : Option Addr) (c : Nat), (∀ w', Below X.heap.size X w' → Rd w' (fun _ => True) A (icells starL)) → Calls Try.prog 21 #[.agg #[.int .i64 0, .slice A starL.length c], .string ⟨#[120]⟩, .string ⟨#[98, 97, 97, 99]⟩] X fun e w' => e = .returned (.tuple #[.string ⟨#[120, 98, 120, 120, 99, 120]⟩, .int .i64 0]) ∧ Below X.heap.size X w') := Lib.hid fun X A c h => by
    have h1 := sbAll_any (T := [120]) (t := Sb.kt) (G := 0) (cp := c) h (by decide) (by decide) (by decide) (by rw [show Sb.al (Sb.Fd 0 starL Sb.kt) Sb.kt [120] 0 = _ from Sb.known_al]; decide)
    rw [show Sb.al (Sb.Fd 0 starL Sb.kt) Sb.kt [120] 0 = _ from Sb.known_al] at h1
    exact h1
  generalize starL = L at *
  go_enter Try.func19, Try.ntmps19
  go_wp2_with first
    | (go_at_call 20; go_must (refine HO.out.mono ?_; rintro e w1 ⟨A, c, A1, c1, rfl, hb1, hr1⟩; have HB1 := Lib.hid hb1; have HR1 := Lib.hid hr1; clear hb1 hr1))
    | (go_at_call 21; go_must (refine (HA.out _ _ _ (fun w' h => (HR1.out.below (((Below.refl _ _).alloc (Nat.le_refl _) _).alloc (by simp) _)).below h)).mono ?_; rintro e w2 ⟨rfl, hb2⟩; have HB2 := Lib.hid (((HB1.out.alloc HB1.out.size _).alloc (by have := HB1.out.size; simp; omega) _).trans (hb2.mono (by have := HB1.out.size; simp; omega))); clear hb2))
  go_ret
  exact ⟨rfl, HB2.out⟩

namespace Sb
theorem grp_len (t : List UInt8) (pl : List Int) (k : Int) : (Pk.grp t pl k).length ≤ t.length := by
  unfold Pk.grp
  split
  · simp
  · split
    · simp
    · rw [List.length_take, List.length_drop]; omega
theorem sub_len (t : List UInt8) (pl : List Int) (b : UInt8) : (sub t pl b).length ≤ t.length + 1 := by
  unfold sub
  split
  · simp
  · have := grp_len t pl ((b.toNat : Int) - 48); omega
theorem ex_len {g : UInt8 → List UInt8} {n : Nat} (hg : ∀ b, (g b).length ≤ n + 1) : ∀ t, (ex g t).length ≤ t.length * (n + 1)
  | [] => Nat.zero_le _
  | [a] => by show 1 ≤ 1 * (n + 1); omega
  | a :: b :: l => by
    rw [ex2]
    have e : (a :: b :: l).length * (n + 1) = l.length * (n + 1) + (n + 1) + (n + 1) := by
      show (l.length + 1 + 1) * (n + 1) = _
      rw [Nat.add_mul, Nat.add_mul, Nat.one_mul]
    by_cases h : two a b = true
    · rw [if_pos h, List.length_append, e]
      have := hg b
      have := ex_len hg l
      omega
    · rw [if_neg h, List.length_cons, e]
      have h1 := ex_len hg (b :: l)
      have e2 : (b :: l).length * (n + 1) = l.length * (n + 1) + (n + 1) := by show (l.length + 1) * (n + 1) = _; rw [Nat.add_mul, Nat.one_mul]
      rw [e2] at h1
      omega
theorem ex_60 {t tx : List UInt8} {pl : List Int} (ht : t.length ≤ 60) (htx : tx.length ≤ 60) : (ex (sub tx pl) t).length ≤ 3660 := by
  have h := ex_len (n := 60) (fun b => Nat.le_trans (sub_len tx pl b) (by omega)) t
  have : t.length * (60 + 1) ≤ 60 * (60 + 1) := Nat.mul_le_mul_right _ ht
  omega
end Sb

set_option maxRecDepth 100000 in
set_option maxHeartbeats 8000000 in
theorem lawExpands13 (t tx : List UInt8) (pl : List Int) (A : Option Addr) (cp : Nat) (W : World) (hr : Rd W (fun _ => True) A (iv pl)) :
    Calls Try.prog 4 #[.string ⟨t.toArray⟩, .string ⟨tx.toArray⟩, .slice A pl.length cp] W fun e W' => e = .returned (.bool true) ∧ Below W.heap.size W W' := by
  by_cases h1 : 60 < t.length
  · have h1I : (60 : Int) < (t.length : Int) := by omega
    go_enter Try.func4, Try.ntmps4
    go_wp2_with fail
    go_ret
    exact ⟨rfl, Below.refl _ _⟩
  have h1I : ¬ (60 : Int) < (t.length : Int) := by omega
  by_cases h2 : 60 < tx.length
  · have h2I : (60 : Int) < (tx.length : Int) := by omega
    go_enter Try.func4, Try.ntmps4
    go_wp2_with fail
    go_ret
    exact ⟨rfl, Below.refl _ _⟩
  have h2I : ¬ (60 : Int) < (tx.length : Int) := by omega
  by_cases h3 : 60 < pl.length
  · have h3I : (60 : Int) < (pl.length : Int) := by omega
    go_enter Try.func4, Try.ntmps4
    go_wp2_with fail
    go_ret
    exact ⟨rfl, Below.refl _ _⟩
  have h3I : ¬ (60 : Int) < (pl.length : Int) := by omega
  have HK := Lib.hid fun W => known13_any W
  have h60 := Sb.ex_60 (pl := pl) (t := t) (tx := tx) (by omega) (by omega)
  have HE := Lib.hid fun X (hX : Below W.heap.size W X) => sbExpandF_any (cp := cp) (t := t) (tx := tx) (w := X) (fun w' h => hr.below (hX.trans (h.mono hX.size))) (by omega) (by omega) (by omega) (by omega)
  have HR := Lib.hid fun X (hX : Below W.heap.size W X) => sbRefExpand_any (cp := cp) (t := t) (tx := tx) (w := X) (fun w' h => hr.below (hX.trans (h.mono hX.size))) (by omega) (by omega) (by omega) (by omega)
  have HC := Lib.hid fun X => sbChk_any t (by omega) X
  have HD := Lib.hid fun X => sbRefCheck_any t (by omega) X
  generalize Sb.ex (Sb.sub tx pl) t = z at *
  generalize Sb.bad t = bd at *
  have hzz : (z == z) = true := by simp
  have hbb : (bd == bd) = true := by simp
  clear h1 h2 h3 h60
  go_enter Try.func4, Try.ntmps4
  go_wp2_with first
    | (go_at_call 15; go_must (refine (HE.out _ (Below.refl _ _)).mono ?_; rintro e w1 ⟨rfl, hb1⟩; have HB1 := Lib.hid hb1; clear hb1))
    | (go_at_call 16; go_must (refine (HR.out _ HB1.out).mono ?_; rintro e w2 ⟨rfl, hb2⟩; have HB2 := Lib.hid (HB1.out.trans (hb2.mono HB1.out.size)); clear hb2))
    | (go_at_call 17; go_must (refine (HC.out _).mono ?_; rintro e w3 ⟨rfl, hb3⟩; have HB3 := Lib.hid (HB2.out.trans (hb3.mono HB2.out.size)); clear hb3))
    | (go_at_call 18; go_must (refine (HD.out _).mono ?_; rintro e w4 ⟨rfl, rfl⟩))
    | (go_at_call 19; go_must (refine (HK.out _).mono ?_; rintro e w5 ⟨rfl, hb5⟩; have HB5 := Lib.hid (HB3.out.trans (hb5.mono HB3.out.size)); clear hb5))
  go_ret
  exact ⟨rfl, HB5.out⟩
end Go.Proofs.Ytelbabgkpflckaa

namespace Go.Proofs.Ytelbabgkpflckaa
open Go.RowKit Go.Sort
open Me
set_option maxRecDepth 100000
open Pk (iv iv_len iv_get)
namespace IvOpen
open Go.ChangeShapes Go.WideShapes Go.ChangeAt Go.RowKit Go.Deep Go.Joins
theorem ints {H : Type} {enc : TypeId × Value → H} {w : World} {base : Nat} {spare : Nat → Bool} {held : Bool} {fuel : Nat} {x : Option Addr} {len cap : Nat} {y : DataW H × List MemPlace}
    (h : DataW.trod enc Try.prog w base spare held fuel 28 [.slice x len cap] = some y) :
    ∃ l : List Int, len = l.length ∧ Rd w (fun _ => True) x (iv l) ∧ ∀ n ∈ l, -9223372036854775808 ≤ n ∧ n ≤ 9223372036854775807 := by
  rcases Go.ChangeShapes.open_ints Try.underlying28 Try.underlying3 (by kernel_rfl) h with ⟨hcs, _⟩ | ⟨a, len', cap', zs, hcs, hb, hl, hm, hzl, _, hc, hwf⟩
  · simp at hcs
    obtain ⟨rfl, rfl, rfl⟩ := hcs
    exact ⟨[], rfl, Rd.none_ _ _ _, fun n hn => absurd hn (by simp)⟩
  · simp at hcs
    obtain ⟨rfl, rfl, rfl⟩ := hcs
    have hle : len ≤ zs.length := by rw [hzl]; split <;> omega
    have hll : (zs.take len).length = len := by rw [List.length_take]; omega
    refine ⟨zs.take len, hll.symm, fun hn => ?_, fun n hn => ?_⟩
    · have key : ∀ j u, (iv (zs.take len))[j]? = some u → w.cell? (a.add j) = some u := by
        intro j u hu
        have hj : j < len := by
          have := (List.getElem?_eq_some_iff.1 hu).1
          rw [iv_len, hll] at this
          exact this
        rw [iv_get _ j (by rw [hll]; exact hj)] at hu
        rw [hc j (by omega), ← hu, List.getElem_take]
        simp [show j < zs.length by omega]
      refine ⟨a, rfl, ?_, trivial, key⟩
      have h0 : 0 < len := by
        rcases Nat.eq_zero_or_pos len with e | e
        · exfalso; apply hn; subst e; rfl
        · exact e
      have := World.block_lt_of_cell? w _ (hc 0 (by omega))
      rwa [Me.block_add] at this
    · have := hwf n (List.mem_of_mem_take hn)
      simpa [Lit.wf, IntKind.min, IntKind.max, IntKind.signed, IntKind.bits] using this
theorem intsV {H : Type} {enc : TypeId × Value → H} {w : World} {base : Nat} {spare : Nat → Bool} {held : Bool} {v : Value} {d : DataW H} {p : List MemPlace} {r : Reach} {b0 : Nat}
    (hv : Value.okWide Try.prog w r b0 28 v) (h : DataW.Trod enc Try.prog w base spare held 28 v d p) : ∃ A c l, v = .slice A (List.length l) c ∧ Rd w (fun _ => True) A (iv l) ∧ ∀ n ∈ l, -9223372036854775808 ≤ n ∧ n ≤ 9223372036854775807 := by
  obtain ⟨a0, len0, cap0, rfl⟩ := okWide_slice Try.underlying28 hv
  obtain ⟨fuel, hf⟩ := h
  obtain ⟨l, e, hs⟩ := ints (by simpa [Value.cells] using hf)
  exact ⟨a0, cap0, l, by rw [e], hs⟩
end IvOpen
end Go.Proofs.Ytelbabgkpflckaa
