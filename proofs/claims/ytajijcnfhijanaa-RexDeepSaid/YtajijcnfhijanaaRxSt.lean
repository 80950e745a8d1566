/-
  CONTRACTS: chapter 11: a bracket expression; a set of bytes.
-/
import Derived.Test.YtajijcnfhijanaaRxIt
namespace Go.Proofs.Ytajijcnfhijanaa
open Go.RowKit
open Me

namespace Rx
/-- A reader with a result's cell. -/
structure ResW (w W : World) (b : Nat) (l : List UInt8) (g d : Nat) : Prop where
  took : Took w b l g d W
  res : RowAt W w.heap.size 73 Try.zeroCells73
  lt : b < w.heap.size
theorem ResW.start {w : World} {b g d : Nat} {l : List UInt8} (h : PsAt w b l g d) : ResW w (w.alloc (.cells Try.zeroCells73 73)) b l g d :=
  ⟨(Took.refl h).on ((Below.refl _ _).alloc (Nat.le_refl _) _), RowAt.new w _ _, h.lt⟩
theorem ResW.on {w W W' : World} {b g d : Nat} {l : List UInt8} (h : ResW w W b l g d) (k : Below W.heap.size W W') : ResW w W' b l g d := ⟨h.took.on k, h.res.below k h.res.lt, h.lt⟩
theorem ResW.alloc {w W : World} {b g d : Nat} {l : List UInt8} (h : ResW w W b l g d) (o : Obj) : ResW w (W.alloc o) b l g d := h.on ((Below.refl _ _).alloc (Nat.le_refl _) _)
theorem ResW.took_ {w W W' : World} {b g d : Nat} {l m : List UInt8} (h : ResW w W b l g d) (k : Took W b m g d W') : ResW w W' b m g d := by
  have := h.lt
  exact ⟨h.took.trans k, k.kpRow h.res (by omega), h.lt⟩
theorem ResW.yes {w W : World} {b g d : Nat} {l : List UInt8} (h : ResW w W b l g d) (f : St) : TookI w b (some (f, l)) g d (.returned (.tuple #[.agg (cel f), .bool true])) (W.setRow w.heap.size (cel f)) :=
  .inl ⟨f, l, rfl, rfl, h.took.setRow (Nat.le_refl _) h.lt _⟩
theorem ResW.no {w W : World} {b g d : Nat} {l : List UInt8} (h : ResW w W b l g d) (f : St) : TookI w b none g d (.returned (.tuple #[.agg (cel f), .bool false])) (W.setRow w.heap.size (cel f)) :=
  .inr ⟨rfl, ⟨f, rfl⟩, l, h.took.setRow (Nat.le_refl _) h.lt _⟩
theorem ResW.items_yes {w W : World} {b g d : Nat} {l m : List UInt8} {f : St} (h : ResW w W b l g d) (n : Nat) (hn : l.length < n) (hr : items n false true l none_ = some (f, m)) :
    Calls Try.prog 55 #[.pointer (some ⟨b, 0, none⟩)] W fun e W' => e = .returned (.tuple #[.agg (cel f), .bool true]) ∧ ResW w W' b m g d := by
  refine (items_any h.took.at_ n hn).mono fun e W' k => ?_
  rw [hr] at k
  rcases k with ⟨f2, m2, h1, h2, h3⟩ | ⟨h1, _⟩
  · cases h1; exact ⟨h2, h.took_ h3⟩
  · cases h1
theorem ResW.items_no {w W : World} {b g d : Nat} {l : List UInt8} (h : ResW w W b l g d) (n : Nat) (hn : l.length < n) (hr : items n false true l none_ = none) :
    Calls Try.prog 55 #[.pointer (some ⟨b, 0, none⟩)] W fun e W' => ∃ f m, e = .returned (.tuple #[.agg (cel f), .bool false]) ∧ ResW w W' b m g d := by
  refine (items_any h.took.at_ n hn).mono fun e W' k => ?_
  rw [hr] at k
  rcases k with ⟨f2, m2, h1, h2, h3⟩ | ⟨_, ⟨f, h2⟩, m, h3⟩
  · cases h1
  · exact ⟨f, m, h2, h.took_ h3⟩
/-- The set's own box, laid behind all else. -/
theorem ResW.invert {w W : World} {b g d : Nat} {l : List UInt8} (h : ResW w W b l g d) (f : St) :
    Calls Try.prog 47 #[.pointer (some ⟨W.heap.size, 0, none⟩)] (W.alloc (.cells (cel f) 73)) fun e W' => e = .returned (.tuple #[]) ∧ ResW w W' b l g d ∧ RowAt W' W.heap.size 73 (cel (inv f)) := by
  refine (sInvert_any (RowAt.new W (cel f) 73)).mono ?_
  rintro e W' ⟨h1, h2, h3⟩
  refine ⟨h1, ?_, h2⟩
  have hb := h3.below (B := W.heap.size) (by simp) (fun i hi e => by omega)
  exact h.on (((Below.refl _ _).alloc (Nat.le_refl _) _).trans hb)
end Rx

set_option maxRecDepth 100000 in
set_option maxHeartbeats 4000000 in
theorem bracket_any {w : World} {b g d : Nat} {l : List UInt8} (h : Rx.PsAt w b l g d) :
    Calls Try.prog 48 #[.pointer (some ⟨b, 0, none⟩)] w (Rx.TookI w b (Rx.bracket l) g d) := by
  have HS := Lib.hid (Rx.ResW.start h)
  have HTk := Lib.hid (takes_one HS.out.took.at_ 94)
  have hbl := h.lt
  cases hs : Rx.starts 94 l
  · have HI0 : Hid (Rx.bracket l = Rx.items (l.length + 1) false true l Rx.none_) := Lib.hid (by unfold Rx.bracket; rw [hs]; rfl)
    rw [hs] at HTk
    have HTk2 : Hid (Calls Try.prog 20 #[.pointer (some ⟨b, 0, none⟩), .string ⟨#[94]⟩] (w.alloc (.cells Try.zeroCells73 73)) fun e w' => e = .returned (.bool false) ∧ Rx.Took (w.alloc (.cells Try.zeroCells73 73)) b l g d w') := HTk
    have HLn : Hid (l.length < l.length + 1) := Lib.hid (Nat.lt_succ_self _)
    rw [HI0.out]
    clear h hs HTk
    cases hr : Rx.items (l.length + 1) false true l Rx.none_ with
    | none =>
      have HR := Lib.hid hr
      clear hr
      go_enter Try.func48, Try.ntmps48
      go_wp2_with first
        | (go_at_call 20; go_must (refine (HTk2.out).mono ?_; rintro e w1 ⟨rfl, ht⟩; have HS1 := Lib.hid (HS.out.took_ ht); clear ht))
        | (go_at_call 55; go_must (refine (HS1.out.items_no _ HLn.out HR.out).mono ?_; rintro e w2 ⟨f, m, rfl, hs2⟩; have HS2 := Lib.hid hs2; clear hs2))
        | ((with_reducible refine Rx.stset_new (Rx.cel f) _ (Rx.cel_size f) (Rx.cel_one f) z_size ?_ ?_ ?_); (focus simp [Act.eval, Act.put]); (focus simp [Act.eval, Act.put]))
        | ((with_reducible refine Rx.ldset (Rx.cel f) (Rx.cel_size f) ?_ (RowAt.new w2 _ _) ?_); (focus simp [Act.eval, Act.put]))
        | ((with_reducible refine Rx.stset (Rx.cel f) Try.zeroCells73 (Rx.cel_size f) (Rx.cel_one f) z_size ?_ ?_ ((HS2.out.alloc _).res) ?_); (focus simp [Act.eval, Act.put]); (focus simp [Act.eval, Act.put]))
      ((try simp only [Exit.inBlock, Exit.then]); refine bodyPost_ret (Rx.ret_set rfl _ ?_ (Rx.row_setRow (HS2.out.alloc _).res _) (Rx.cel_size f)) rfl ?_; (focus simp); simp only [Array.getD_eq_getD_getElem?])
      exact (HS2.out.alloc _).no f
    | some x =>
      obtain ⟨f, m⟩ := x
      have HR := Lib.hid hr
      clear hr
      go_enter Try.func48, Try.ntmps48
      go_wp2_with first
        | (go_at_call 20; go_must (refine (HTk2.out).mono ?_; rintro e w1 ⟨rfl, ht⟩; have HS1 := Lib.hid (HS.out.took_ ht); clear ht))
        | (go_at_call 55; go_must (refine (HS1.out.items_yes _ HLn.out HR.out).mono ?_; rintro e w2 ⟨rfl, hs2⟩; have HS2 := Lib.hid hs2; clear hs2))
        | ((with_reducible refine Rx.stset_new (Rx.cel f) _ (Rx.cel_size f) (Rx.cel_one f) z_size ?_ ?_ ?_); (focus simp [Act.eval, Act.put]); (focus simp [Act.eval, Act.put]))
        | ((with_reducible refine Rx.ldset (Rx.cel f) (Rx.cel_size f) ?_ (RowAt.new w2 _ _) ?_); (focus simp [Act.eval, Act.put]))
        | ((with_reducible refine Rx.stset (Rx.cel f) Try.zeroCells73 (Rx.cel_size f) (Rx.cel_one f) z_size ?_ ?_ ((HS2.out.alloc _).res) ?_); (focus simp [Act.eval, Act.put]); (focus simp [Act.eval, Act.put]))
      ((try simp only [Exit.inBlock, Exit.then]); refine bodyPost_ret (Rx.ret_set rfl _ ?_ (Rx.row_setRow (HS2.out.alloc _).res _) (Rx.cel_size f)) rfl ?_; (focus simp); simp only [Array.getD_eq_getD_getElem?])
      exact (HS2.out.alloc _).yes f
  · have HI0 : Hid (Rx.bracket l = (Rx.items (l.length + 1) false true (l.drop 1) Rx.none_).map fun x => (Rx.inv x.1, x.2)) := Lib.hid (by unfold Rx.bracket; rw [hs]; rfl)
    rw [hs] at HTk
    have HTk2 : Hid (Calls Try.prog 20 #[.pointer (some ⟨b, 0, none⟩), .string ⟨#[94]⟩] (w.alloc (.cells Try.zeroCells73 73)) fun e w' => e = .returned (.bool true) ∧ Rx.Took (w.alloc (.cells Try.zeroCells73 73)) b (l.drop 1) g d w') := HTk
    have HLn : Hid ((l.drop 1).length < l.length + 1) := Lib.hid (by rw [List.length_drop]; omega)
    rw [HI0.out]
    clear h hs HTk
    cases hr : Rx.items (l.length + 1) false true (l.drop 1) Rx.none_ with
    | none =>
      have HR := Lib.hid hr
      clear hr
      go_enter Try.func48, Try.ntmps48
      go_wp2_with first
        | (go_at_call 20; go_must (refine (HTk2.out).mono ?_; rintro e w1 ⟨rfl, ht⟩; have HS1 := Lib.hid (HS.out.took_ ht); clear ht))
        | (go_at_call 55; go_must (refine (HS1.out.items_no _ HLn.out HR.out).mono ?_; rintro e w2 ⟨f, m, rfl, hs2⟩; have HS2 := Lib.hid hs2; clear hs2))
        | ((with_reducible refine Rx.stset_new (Rx.cel f) _ (Rx.cel_size f) (Rx.cel_one f) z_size ?_ ?_ ?_); (focus simp [Act.eval, Act.put]); (focus simp [Act.eval, Act.put]))
        | (go_at_call 47; go_must (refine (HS2.out.invert f).mono ?_; rintro e w3 ⟨rfl, hs3, hr3⟩; have HS3 := Lib.hid hs3; have HR3 := Lib.hid hr3; clear hs3 hr3))
        | ((with_reducible refine Rx.ldset (Rx.cel (Rx.inv f)) (Rx.cel_size _) ?_ (HR3.out) ?_); (focus simp [Act.eval, Act.put]))
        | ((with_reducible refine Rx.stset (Rx.cel (Rx.inv f)) Try.zeroCells73 (Rx.cel_size _) (Rx.cel_one _) z_size ?_ ?_ (HS3.out.res) ?_); (focus simp [Act.eval, Act.put]); (focus simp [Act.eval, Act.put]))
      ((try simp only [Exit.inBlock, Exit.then]); refine bodyPost_ret (Rx.ret_set rfl _ ?_ (Rx.row_setRow HS3.out.res _) (Rx.cel_size _)) rfl ?_; (focus simp); simp only [Array.getD_eq_getD_getElem?])
      exact HS3.out.no _
    | some x =>
      obtain ⟨f, m⟩ := x
      have HR := Lib.hid hr
      clear hr
      go_enter Try.func48, Try.ntmps48
      go_wp2_with first
        | (go_at_call 20; go_must (refine (HTk2.out).mono ?_; rintro e w1 ⟨rfl, ht⟩; have HS1 := Lib.hid (HS.out.took_ ht); clear ht))
        | (go_at_call 55; go_must (refine (HS1.out.items_yes _ HLn.out HR.out).mono ?_; rintro e w2 ⟨rfl, hs2⟩; have HS2 := Lib.hid hs2; clear hs2))
        | ((with_reducible refine Rx.stset_new (Rx.cel f) _ (Rx.cel_size f) (Rx.cel_one f) z_size ?_ ?_ ?_); (focus simp [Act.eval, Act.put]); (focus simp [Act.eval, Act.put]))
        | (go_at_call 47; go_must (refine (HS2.out.invert f).mono ?_; rintro e w3 ⟨rfl, hs3, hr3⟩; have HS3 := Lib.hid hs3; have HR3 := Lib.hid hr3; clear hs3 hr3))
        | ((with_reducible refine Rx.ldset (Rx.cel (Rx.inv f)) (Rx.cel_size _) ?_ (HR3.out) ?_); (focus simp [Act.eval, Act.put]))
        | ((with_reducible refine Rx.stset (Rx.cel (Rx.inv f)) Try.zeroCells73 (Rx.cel_size _) (Rx.cel_one _) z_size ?_ ?_ (HS3.out.res) ?_); (focus simp [Act.eval, Act.put]); (focus simp [Act.eval, Act.put]))
      ((try simp only [Exit.inBlock, Exit.then]); refine bodyPost_ret (Rx.ret_set rfl _ ?_ (Rx.row_setRow HS3.out.res _) (Rx.cel_size _)) rfl ?_; (focus simp); simp only [Array.getD_eq_getD_getElem?])
      exact HS3.out.yes _

namespace Rx
theorem ItW.sign_hit {w W : World} {b g d : Nat} {c : UInt8} {r : List UInt8} {f : St} (h : ItW w W b (c :: r) g d f) (hs : signB c = true) :
    Calls Try.prog 33 #[.pointer (some ⟨b, 0, none⟩), .string ⟨#[42, 43, 63]⟩] W fun e W' => e = .returned (.tuple #[.int .u8 (c.toNat : Int), .bool true]) ∧ ItW w W' b r g d f :=
  (takeSign_hit h.took.at_ hs).mono fun _ _ k => ⟨k.1, h.took_ k.2⟩
theorem ItW.sign_miss {w W : World} {b g d : Nat} {c : UInt8} {r : List UInt8} {f : St} (h : ItW w W b (c :: r) g d f) (hs : signB c = false) :
    Calls Try.prog 33 #[.pointer (some ⟨b, 0, none⟩), .string ⟨#[42, 43, 63]⟩] W fun e W' => e = .returned (.tuple #[.int .u8 0, .bool false]) ∧ ItW w W' b (c :: r) g d f :=
  (takeSign_miss h.took.at_ hs).mono fun _ _ k => ⟨k.1, h.took_ k.2⟩
theorem ItW.bracket_ {w W : World} {b g d : Nat} {l : List UInt8} {f : St} (h : ItW w W b l g d f) :
    Calls Try.prog 48 #[.pointer (some ⟨b, 0, none⟩)] W fun e W' => (∃ f2 m, bracket l = some (f2, m) ∧ e = .returned (.tuple #[.agg (cel f2), .bool true]) ∧ ItW w W' b m g d f) ∨ (bracket l = none ∧ (∃ f2, e = .returned (.tuple #[.agg (cel f2), .bool false])) ∧ ∃ m, ItW w W' b m g d f) := by
  refine (bracket_any h.took.at_).mono fun e W' k => ?_
  rcases k with ⟨f2, m, h1, h2, h3⟩ | ⟨h1, h2, m, h3⟩
  · exact .inl ⟨f2, m, h1, h2, h.took_ h3⟩
  · exact .inr ⟨h1, h2, m, h.took_ h3⟩
theorem ItW.res_ {w W : World} {b g d : Nat} {l : List UInt8} {f : St} (h : ItW w W b l g d f) : ResW w W b l g d := ⟨h.took, h.res, h.lt⟩
end Rx

set_option maxRecDepth 100000 in
set_option maxHeartbeats 8000000 in
theorem rset_any {w : World} {b g d : Nat} {x : UInt8} {r : List UInt8} (h : Rx.PsAt w b (x :: r) g d) :
    Calls Try.prog 39 #[.pointer (some ⟨b, 0, none⟩)] w (Rx.TookI w b (Rx.set (x :: r)) g d) := by
  have HS := Lib.hid (Rx.ItW.start h)
  have hbl := h.lt
  clear h
  by_cases h46 : x = 46
  · subst h46
    rw [show Rx.set (46 :: r) = some (Rx.inv (Rx.add Rx.none_ 10 10), r) from rfl]
    have H46 : Hid (Rx.starts 46 (46 :: r) = true) := Lib.hid rfl
    have HA : Hid (∀ (W : World) (l : List UInt8) (f : Rx.St), Rx.ItW w W b l g d f → Calls Try.prog 46 #[.pointer (some ⟨w.heap.size + 1, 0, none⟩), .int .u8 10, .int .u8 10] W fun e W' => e = .returned (.tuple #[]) ∧ Rx.ItW w W' b l g d (Rx.add f 10 10)) := Lib.hid fun W l f h => h.add_ 10 10
    go_enter Try.func39, Try.ntmps39
    go_wp2_with first
        | (go_at_call 20; ((with_reducible refine (HS.out.takes_yes (c := 46) H46.out).mono ?_); rintro e w1 ⟨rfl, hs1⟩; have HS1 := Lib.hid hs1; clear hs1))
        | (go_at_call 46; go_must (refine (HA.out _ _ _ HS1.out).mono ?_; rintro e w2 ⟨rfl, hs2⟩; have HS2 := Lib.hid hs2; clear hs2))
        | (go_at_call 47; go_must (refine (HS2.out.invert_).mono ?_; rintro e w3 ⟨rfl, hs3⟩; have HS3 := Lib.hid hs3; clear hs3))
        | ((with_reducible refine Rx.ldset (Rx.cel (Rx.inv (Rx.add Rx.none_ 10 10))) (Rx.cel_size _) ?_ (HS3.out.row) ?_); (focus simp [Act.eval, Act.put]))
        | ((with_reducible refine Rx.stset (Rx.cel (Rx.inv (Rx.add Rx.none_ 10 10))) Try.zeroCells73 (Rx.cel_size _) (Rx.cel_one _) z_size ?_ ?_ (HS3.out.res) ?_); (focus simp [Act.eval, Act.put]); (focus simp [Act.eval, Act.put]))
    ((try simp only [Exit.inBlock, Exit.then]); refine bodyPost_ret (Rx.ret_set rfl _ ?_ (Rx.row_setRow HS3.out.res _) (Rx.cel_size _)) rfl ?_; (focus simp); simp only [Array.getD_eq_getD_getElem?])
    exact HS3.out.yes
  have H46 : Hid (Rx.starts 46 (x :: r) = false) := Lib.hid (by show (x == 46) = false; simpa using h46)
  by_cases h91 : x = 91
  · subst h91
    rw [show Rx.set (91 :: r) = Rx.bracket r from rfl]
    have H91 : Hid (Rx.starts 91 (91 :: r) = true) := Lib.hid rfl
    clear h46
    cases hb : Rx.bracket r with
    | none =>
      have HB := Lib.hid hb
      clear hb
      go_enter Try.func39, Try.ntmps39
      go_wp2_with first
        | (go_at_call 20; ((with_reducible refine (HS.out.takes_no (c := 46) H46.out).mono ?_); rintro e w1 ⟨rfl, hs1⟩; have HS1 := Lib.hid hs1; clear hs1))
        | (go_at_call 20; ((with_reducible refine (HS1.out.takes_yes (c := 91) H91.out).mono ?_); rintro e w2 ⟨rfl, hs2⟩; have HS2 := Lib.hid hs2; clear hs2))
        | (go_at_call 48; go_must (refine (HS2.out.bracket_).mono ?_; rintro e w3 hg; rcases hg with ⟨f2, m, hz, _⟩ | ⟨_, ⟨f2, rfl⟩, m, hs3⟩; (exact absurd (HB.out.symm.trans hz) (by simp)); have HS3 := Lib.hid hs3; clear hs3))
        | ((with_reducible refine Rx.stset (Rx.cel f2) Try.zeroCells73 (Rx.cel_size _) (Rx.cel_one _) z_size ?_ ?_ (HS3.out.res) ?_); (focus simp [Act.eval, Act.put]); (focus simp [Act.eval, Act.put]))
      ((try simp only [Exit.inBlock, Exit.then]); refine bodyPost_ret (Rx.ret_set rfl _ ?_ (Rx.row_setRow HS3.out.res _) (Rx.cel_size _)) rfl ?_; (focus simp); simp only [Array.getD_eq_getD_getElem?])
      exact HS3.out.res_.no f2
    | some y =>
      obtain ⟨f2, m⟩ := y
      have HB := Lib.hid hb
      clear hb
      go_enter Try.func39, Try.ntmps39
      go_wp2_with first
        | (go_at_call 20; ((with_reducible refine (HS.out.takes_no (c := 46) H46.out).mono ?_); rintro e w1 ⟨rfl, hs1⟩; have HS1 := Lib.hid hs1; clear hs1))
        | (go_at_call 20; ((with_reducible refine (HS1.out.takes_yes (c := 91) H91.out).mono ?_); rintro e w2 ⟨rfl, hs2⟩; have HS2 := Lib.hid hs2; clear hs2))
        | (go_at_call 48; go_must (refine (HS2.out.bracket_).mono ?_; rintro e w3 hg; rcases hg with ⟨f3, m3, hz, rfl, hs3⟩ | ⟨hz, _⟩; have hz := HB.out.symm.trans hz; (obtain ⟨rfl, rfl⟩ : f2 = f3 ∧ m = m3 := by simpa using hz); have HS3 := Lib.hid hs3; clear hs3 hz; rotate_left; exact absurd (HB.out.symm.trans hz) (by simp)))
        | ((with_reducible refine Rx.stset (Rx.cel f2) Try.zeroCells73 (Rx.cel_size _) (Rx.cel_one _) z_size ?_ ?_ (HS3.out.res) ?_); (focus simp [Act.eval, Act.put]); (focus simp [Act.eval, Act.put]))
      ((try simp only [Exit.inBlock, Exit.then]); refine bodyPost_ret (Rx.ret_set rfl _ ?_ (Rx.row_setRow HS3.out.res _) (Rx.cel_size _)) rfl ?_; (focus simp); simp only [Array.getD_eq_getD_getElem?])
      exact HS3.out.res_.yes f2
  have H91 : Hid (Rx.starts 91 (x :: r) = false) := Lib.hid (by show (x == 91) = false; simpa using h91)
  cases hc : Rx.classOf (x :: r) with
  | some c =>
    have HE : Hid (Rx.set (x :: r) = some (c, r.drop 1)) := Lib.hid (by rw [Rx.set, if_neg h46, if_neg h91, hc])
    rw [HE.out]
    have HC := Lib.hid hc
    clear h46 h91 hc
    go_enter Try.func39, Try.ntmps39
    go_wp2_with first
        | (go_at_call 20; ((with_reducible refine (HS.out.takes_no (c := 46) H46.out).mono ?_); rintro e w1 ⟨rfl, hs1⟩; have HS1 := Lib.hid hs1; clear hs1))
        | (go_at_call 20; ((with_reducible refine (HS1.out.takes_no (c := 91) H91.out).mono ?_); rintro e w2 ⟨rfl, hs2⟩; have HS2 := Lib.hid hs2; clear hs2))
        | (go_at_call 49; go_must (refine (HS2.out.class_yes HC.out).mono ?_; rintro e w3 ⟨rfl, hs3⟩; have HS3 := Lib.hid (hs3.alloc (.cells (Rx.cel c) 73)); clear hs3))
        | ((with_reducible refine Rx.stset_new (Rx.cel c) _ (Rx.cel_size c) (Rx.cel_one c) z_size ?_ ?_ ?_); (focus simp [Act.eval, Act.put]); (focus simp [Act.eval, Act.put]))
        | ((with_reducible refine Rx.ldset (Rx.cel c) (Rx.cel_size c) ?_ (RowAt.new w3 _ _) ?_); (focus simp [Act.eval, Act.put]))
        | ((with_reducible refine Rx.stset (Rx.cel c) Try.zeroCells73 (Rx.cel_size _) (Rx.cel_one _) z_size ?_ ?_ (HS3.out.res) ?_); (focus simp [Act.eval, Act.put]); (focus simp [Act.eval, Act.put]))
    ((try simp only [Exit.inBlock, Exit.then]); refine bodyPost_ret (Rx.ret_set rfl _ ?_ (Rx.row_setRow HS3.out.res _) (Rx.cel_size _)) rfl ?_; (focus simp); simp only [Array.getD_eq_getD_getElem?])
    exact HS3.out.res_.yes c
  | none =>
    have HC := Lib.hid hc
    cases hsg : Rx.signB x
    · have HG := Lib.hid hsg
      cases ht : Rx.takeByte (x :: r) with
      | none =>
        have HE : Hid (Rx.set (x :: r) = none) := Lib.hid (by rw [Rx.set, if_neg h46, if_neg h91, hc, hsg, ht]; rfl)
        rw [HE.out]
        have HT := Lib.hid ht
        have HA : Hid (∀ (W : World) (l : List UInt8) (f : Rx.St), Rx.ItW w W b l g d f → Calls Try.prog 46 #[.pointer (some ⟨w.heap.size + 1, 0, none⟩), .int .u8 0, .int .u8 0] W fun e W' => e = .returned (.tuple #[]) ∧ Rx.ItW w W' b l g d (Rx.add f 0 0)) := Lib.hid fun W l f h => h.add_ 0 0
        clear h46 h91 hc hsg ht
        go_enter Try.func39, Try.ntmps39
        go_wp2_with first
        | (go_at_call 20; ((with_reducible refine (HS.out.takes_no (c := 46) H46.out).mono ?_); rintro e w1 ⟨rfl, hs1⟩; have HS1 := Lib.hid hs1; clear hs1))
        | (go_at_call 20; ((with_reducible refine (HS1.out.takes_no (c := 91) H91.out).mono ?_); rintro e w2 ⟨rfl, hs2⟩; have HS2 := Lib.hid hs2; clear hs2))
        | (go_at_call 49; go_must (refine (HS2.out.class_no HC.out).mono ?_; rintro e w3 ⟨c, rfl, hs3⟩; have HS3 := Lib.hid (hs3.alloc (.cells (Rx.cel c) 73)); clear hs3))
        | ((with_reducible refine Rx.stset_new (Rx.cel c) _ (Rx.cel_size c) (Rx.cel_one c) z_size ?_ ?_ ?_); (focus simp [Act.eval, Act.put]); (focus simp [Act.eval, Act.put]))
        | (go_at_call 33; go_must (refine (HS3.out.sign_miss HG.out).mono ?_; rintro e w4 ⟨rfl, hs4⟩; have HS4 := Lib.hid hs4; clear hs4))
        | (go_at_call 50; go_must (refine (HS4.out.byte_no HT.out).mono ?_; rintro e w5 ⟨rfl, m5, hs5⟩; have HS5 := Lib.hid hs5; clear hs5))
        | (go_at_call 46; go_must (refine (HA.out _ _ _ HS5.out).mono ?_; rintro e w6 ⟨rfl, hs6⟩; have HS6 := Lib.hid hs6; clear hs6))
        | ((with_reducible refine Rx.ldset (Rx.cel (Rx.add Rx.none_ 0 0)) (Rx.cel_size _) ?_ (HS6.out.row) ?_); (focus simp [Act.eval, Act.put]))
        | ((with_reducible refine Rx.stset (Rx.cel (Rx.add Rx.none_ 0 0)) Try.zeroCells73 (Rx.cel_size _) (Rx.cel_one _) z_size ?_ ?_ (HS6.out.res) ?_); (focus simp [Act.eval, Act.put]); (focus simp [Act.eval, Act.put]))
        ((try simp only [Exit.inBlock, Exit.then]); refine bodyPost_ret (Rx.ret_set rfl _ ?_ (Rx.row_setRow HS6.out.res _) (Rx.cel_size _)) rfl ?_; (focus simp); simp only [Array.getD_eq_getD_getElem?])
        exact HS6.out.no
      | some y =>
        obtain ⟨c1, r2⟩ := y
        have HE : Hid (Rx.set (x :: r) = some (Rx.add Rx.none_ c1.toNat c1.toNat, r2)) := Lib.hid (by rw [Rx.set, if_neg h46, if_neg h91, hc, hsg, ht]; rfl)
        rw [HE.out]
        have HT := Lib.hid ht
        clear h46 h91 hc hsg ht
        go_enter Try.func39, Try.ntmps39
        go_wp2_with first
        | (go_at_call 20; ((with_reducible refine (HS.out.takes_no (c := 46) H46.out).mono ?_); rintro e w1 ⟨rfl, hs1⟩; have HS1 := Lib.hid hs1; clear hs1))
        | (go_at_call 20; ((with_reducible refine (HS1.out.takes_no (c := 91) H91.out).mono ?_); rintro e w2 ⟨rfl, hs2⟩; have HS2 := Lib.hid hs2; clear hs2))
        | (go_at_call 49; go_must (refine (HS2.out.class_no HC.out).mono ?_; rintro e w3 ⟨c, rfl, hs3⟩; have HS3 := Lib.hid (hs3.alloc (.cells (Rx.cel c) 73)); clear hs3))
        | ((with_reducible refine Rx.stset_new (Rx.cel c) _ (Rx.cel_size c) (Rx.cel_one c) z_size ?_ ?_ ?_); (focus simp [Act.eval, Act.put]); (focus simp [Act.eval, Act.put]))
        | (go_at_call 33; go_must (refine (HS3.out.sign_miss HG.out).mono ?_; rintro e w4 ⟨rfl, hs4⟩; have HS4 := Lib.hid hs4; clear hs4))
        | (go_at_call 50; go_must (refine (HS4.out.byte_yes HT.out).mono ?_; rintro e w5 ⟨rfl, hs5⟩; have HS5 := Lib.hid hs5; clear hs5))
        | (go_at_call 46; go_must (refine (HS5.out.add_ c1 c1).mono ?_; rintro e w6 ⟨rfl, hs6⟩; have HS6 := Lib.hid hs6; clear hs6))
        | ((with_reducible refine Rx.ldset (Rx.cel (Rx.add Rx.none_ c1.toNat c1.toNat)) (Rx.cel_size _) ?_ (HS6.out.row) ?_); (focus simp [Act.eval, Act.put]))
        | ((with_reducible refine Rx.stset (Rx.cel (Rx.add Rx.none_ c1.toNat c1.toNat)) Try.zeroCells73 (Rx.cel_size _) (Rx.cel_one _) z_size ?_ ?_ (HS6.out.res) ?_); (focus simp [Act.eval, Act.put]); (focus simp [Act.eval, Act.put]))
        ((try simp only [Exit.inBlock, Exit.then]); refine bodyPost_ret (Rx.ret_set rfl _ ?_ (Rx.row_setRow HS6.out.res _) (Rx.cel_size _)) rfl ?_; (focus simp); simp only [Array.getD_eq_getD_getElem?])
        exact HS6.out.yes
    · have HG := Lib.hid hsg
      have HE : Hid (Rx.set (x :: r) = none) := Lib.hid (by rw [Rx.set, if_neg h46, if_neg h91, hc, hsg]; rfl)
      rw [HE.out]
      clear h46 h91 hc hsg
      go_enter Try.func39, Try.ntmps39
      go_wp2_with first
        | (go_at_call 20; ((with_reducible refine (HS.out.takes_no (c := 46) H46.out).mono ?_); rintro e w1 ⟨rfl, hs1⟩; have HS1 := Lib.hid hs1; clear hs1))
        | (go_at_call 20; ((with_reducible refine (HS1.out.takes_no (c := 91) H91.out).mono ?_); rintro e w2 ⟨rfl, hs2⟩; have HS2 := Lib.hid hs2; clear hs2))
        | (go_at_call 49; go_must (refine (HS2.out.class_no HC.out).mono ?_; rintro e w3 ⟨c, rfl, hs3⟩; have HS3 := Lib.hid (hs3.alloc (.cells (Rx.cel c) 73)); clear hs3))
        | ((with_reducible refine Rx.stset_new (Rx.cel c) _ (Rx.cel_size c) (Rx.cel_one c) z_size ?_ ?_ ?_); (focus simp [Act.eval, Act.put]); (focus simp [Act.eval, Act.put]))
        | (go_at_call 33; go_must (refine (HS3.out.sign_hit HG.out).mono ?_; rintro e w4 ⟨rfl, hs4⟩; have HS4 := Lib.hid hs4; clear hs4))
        | ((with_reducible refine Rx.ldset (Rx.cel Rx.none_) (Rx.cel_size _) ?_ (HS4.out.row) ?_); (focus simp [Act.eval, Act.put]))
        | ((with_reducible refine Rx.stset (Rx.cel Rx.none_) Try.zeroCells73 (Rx.cel_size _) (Rx.cel_one _) z_size ?_ ?_ (HS4.out.res) ?_); (focus simp [Act.eval, Act.put]); (focus simp [Act.eval, Act.put]))
      ((try simp only [Exit.inBlock, Exit.then]); refine bodyPost_ret (Rx.ret_set rfl _ ?_ (Rx.row_setRow HS4.out.res _) (Rx.cel_size _)) rfl ?_; (focus simp); simp only [Array.getD_eq_getD_getElem?])
      exact HS4.out.no
end Go.Proofs.Ytajijcnfhijanaa
