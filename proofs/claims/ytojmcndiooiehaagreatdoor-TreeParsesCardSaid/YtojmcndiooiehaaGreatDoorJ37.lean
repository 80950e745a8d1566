/-
  TeLawP: LAW: chapter 15: TreeParses.
-/
import Derived.Test.YtojmcndiooiehaaGreatDoorJ20
import Derived.Test.YtojmcndiooiehaaGreatDoorJ36

set_option linter.unusedSimpArgs false
set_option linter.unusedVariables false
namespace Go.Proofs.YtojmcndiooiehaaGreatDoor
open Go.RowKit Go.Sort
open Me

set_option maxRecDepth 100000 in
set_option maxHeartbeats 8000000 in
theorem lawParses15 (s : List UInt8) (W : World) :
    Calls Tryz.prog 3 #[.string ⟨s.toArray⟩] W fun e W' => e = .returned (.bool true) ∧ Below W.heap.size W W' := by
  by_cases hs : s.length ≤ 300
  · have HP := Lib.hid fun w => (tparse_any s (by omega) w).mono fun e w' h => And.intro h.1.out h.2
    have HR := Lib.hid fun w => (rparse_any s (by omega) w).mono fun e w' h => And.intro h.1.out h.2
    have HWT := Lib.hid (Te.nd_wt s hs)
    have hI : ¬ (300 : Int) < (s.length : Int) := by omega
    generalize Te.parseS s = res at *
    generalize Te.erOf res = er at *
    generalize Te.ndOf res = x at *
    have HS : Hid (∀ (W : World) (G H : Nat → Prop) v u, Te.At W G x v → Te.At W H x u → Calls Tryz.prog 9 #[Te.val x v, Te.val x u] W fun e w' => e = .returned (.bool true) ∧ Below W.heap.size W w') := Lib.hid fun W G H v u h1 h2 => by
      have := rsame_any G H (Te.wt x) x (Nat.le_refl _) HWT.out x W v u HWT.out h1 h2
      rw [Te.same_refl] at this
      exact this
    obtain ⟨k, t, n, ks⟩ := x
    obtain ⟨m, hm⟩ : ∃ m, m = ks.length := ⟨_, rfl⟩
    have HP : Hid (∀ w, Calls Tryz.prog 7 #[.string ⟨s.toArray⟩] w fun e w' => (∃ A c, e = .returned (.tuple #[.agg #[.int .i64 k, .string ⟨t.toArray⟩, .int .i64 n, .slice A m c], .int .i64 er]) ∧ Te.At w' (fun i => w.heap.size ≤ i) (.mk k t n ks) (.slice A m c)) ∧ Below w.heap.size w w') := Lib.hid (by rw [hm]; exact HP.out)
    have HR : Hid (∀ w, Calls Tryz.prog 8 #[.string ⟨s.toArray⟩] w fun e w' => (∃ A c, e = .returned (.tuple #[.agg #[.int .i64 k, .string ⟨t.toArray⟩, .int .i64 n, .slice A m c], .int .i64 er]) ∧ Te.At w' (fun i => w.heap.size ≤ i) (.mk k t n ks) (.slice A m c)) ∧ Below w.heap.size w w') := Lib.hid (by rw [hm]; exact HR.out)
    have HS : Hid (∀ (W : World) (G H : Nat → Prop) A c A' c', Te.At W G (.mk k t n ks) (.slice A m c) → Te.At W H (.mk k t n ks) (.slice A' m c') → Calls Tryz.prog 9 #[.agg #[.int .i64 k, .string ⟨t.toArray⟩, .int .i64 n, .slice A m c], .agg #[.int .i64 k, .string ⟨t.toArray⟩, .int .i64 n, .slice A' m c']] W fun e W' => e = .returned (.bool true) ∧ Below W.heap.size W W') := Lib.hid fun W G H A c A' c' h1 h2 => HS.out W G H _ _ h1 h2
    have HKN := Lib.hid fun w => known15_any w
    clear hm
    generalize Te.Nd.mk k t n ks = nd at *
    go_enter Tryz.func3, Tryz.ntmps3
    go_wp2_with fail
    go_at_call 7
    refine (HP.out _).mono ?_
    rintro e w1 ⟨⟨A1, c1, rfl, hat1⟩, hb1⟩
    have HB1 := Lib.hid hb1
    have HA1 := Lib.hid hat1
    have hz1 := hb1.size
    clear hb1 hat1
    go_wp2_with fail
    go_at_call 8
    refine (HR.out _).mono ?_
    rintro e w2 ⟨⟨A2, c2, rfl, hat2⟩, hb2⟩
    have hr1 : RowAt w2 w1.heap.size 24 #[.int .i64 k, .string ⟨t.toArray⟩, .int .i64 n, .slice A1 m c1] := (RowAt.new w1 _ _).below hb2 (by simp)
    have HA12 := Lib.hid ((HA1.out.below ((Below.refl _ _).alloc (Nat.le_refl _) (.cells #[.int .i64 k, .string ⟨t.toArray⟩, .int .i64 n, .slice A1 m c1] 24))).below hb2)
    have HA2 := Lib.hid hat2
    have HB2 : Hid (Below W.heap.size W w2) := Lib.hid ((HB1.out.alloc hz1 (.cells #[.int .i64 k, .string ⟨t.toArray⟩, .int .i64 n, .slice A1 m c1] 24)).trans (hb2.mono (by simp; omega)))
    have x0 : w2.cell? ⟨w1.heap.size, 0, none⟩ = some (.int .i64 k) := (hr1.cell 0).trans rfl
    have x1 : w2.cell? ⟨w1.heap.size, 1, none⟩ = some (.string ⟨t.toArray⟩) := (hr1.cell 1).trans rfl
    have x2 : w2.cell? ⟨w1.heap.size, 2, none⟩ = some (.int .i64 n) := (hr1.cell 2).trans rfl
    have x3 : w2.cell? ⟨w1.heap.size, 3, none⟩ = some (.slice A1 m c1) := (hr1.cell 3).trans rfl
    have l1 := hr1.lt
    have hz2 := HB2.out.size
    clear hb2 hat2 hr1
    go_wp2_with first
      | (go_at_call 9; go_must (refine (HS.out _ _ _ _ _ _ _ (HA12.out.below ((Below.refl _ _).alloc (Nat.le_refl _) _)) (HA2.out.below ((Below.refl _ _).alloc (Nat.le_refl _) _))).mono ?_; rintro e w3 ⟨rfl, hb3⟩; have HB3 : Hid (Below W.heap.size W w3) := Lib.hid ((HB2.out.alloc hz2 _).trans (hb3.mono (by simp; omega))); clear hb3))
      | (go_at_call 10; go_must (refine (HKN.out _).mono ?_; rintro e w4 ⟨rfl, hb4⟩; have HB4 : Hid (Below W.heap.size W w4) := Lib.hid (HB3.out.trans (hb4.mono HB3.out.size)); clear hb4))
    go_ret
    exact ⟨rfl, HB4.out⟩
  · have hI : (300 : Int) < (s.length : Int) := by omega
    clear hs
    go_enter Tryz.func3, Tryz.ntmps3
    go_wp2
    go_ret
    exact ⟨rfl, Below.refl _ _⟩
end Go.Proofs.YtojmcndiooiehaaGreatDoor
