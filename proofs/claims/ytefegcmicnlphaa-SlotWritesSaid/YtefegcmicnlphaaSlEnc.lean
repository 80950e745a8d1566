/-
  CONTRACTS: chapter 5's Encode, on both sides.
-/
import Derived.Test.YtefegcmicnlphaaSlPut
namespace Go.Proofs.Ytefegcmicnlphaa
open Go.RowKit Go.Sort
open Me

theorem OwnB.rebase {a b : Nat} {w : World} {v : Value} {l : List UInt8} (h : OwnB a w v l) (hb : ∀ g, v.ownBlock = some g → b ≤ g) : OwnB b w v l := by
  refine ⟨h.1, ?_⟩
  rcases h.2 with hn | ⟨g, cap, cur, hv, _, rest⟩
  · exact .inl hn
  · exact .inr ⟨g, cap, cur, hv, hb g (by rw [hv]; rfl), rest⟩

namespace Sl
def enc (a n : Int) : List UInt8 := beb (lim a) 4 ++ beb n 8
theorem enc_len (a n : Int) : (enc a n).length = 12 := by unfold enc; rw [List.length_append, beb_len, beb_len]
theorem Pst.chain {w0 w w' : World} {g : Nat} {lr : Option Nat} {a n : Int} {L' : List UInt8} {v : Value} (hk : Kp (fun b => b = g ∨ lr = some b) w0 w) (hfr : v.ownBlock = lr ∨ ∃ b, v.ownBlock = some b ∧ w0.heap.size ≤ b)
    (h' : Pst w g v.ownBlock a n L' w') : Pst w0 g lr a n L' w' := by
  obtain ⟨v', p1, p2, p3, p4⟩ := h'
  refine ⟨v', p1, p2, hk.trans p3 (fun i hi ho => ?_), ?_⟩
  · rcases ho with rfl | ho
    · exact .inl rfl
    · rcases hfr with e | ⟨b, e, hb⟩
      · exact .inr (e ▸ ho)
      · rw [e] at ho
        injection ho with ho
        omega
  · rcases p4 with e | ⟨b, e, hb⟩
    · rw [e]; exact hfr
    · exact .inr ⟨b, e, Nat.le_trans hk.size hb⟩
theorem Pst.lt {w0 w : World} {g : Nat} {lr : Option Nat} {a n : Int} {L : List UInt8} (h : Pst w0 g lr a n L w) : g < w.heap.size := by
  obtain ⟨v, h1, _⟩ := h
  exact (pt_cells h1).2.2.2.2
/-- A row that was taken stays, whatever is put behind it. -/
theorem Pst.keeps {w0 w : World} {g : Nat} {a n : Int} {L M : List UInt8} {u : Value} {base : Nat} (h : Pst w0 g none a n L w) (ho : OwnB base w0 u M) (hne : u.ownBlock ≠ some g) : OwnB base w u M := by
  obtain ⟨v, _, _, h3, _⟩ := h
  exact ho.kp h3 fun b hb hO => by
    rcases hO with rfl | hO
    · exact hne hb
    · cases hO
theorem Pst.below {w0 w : World} {B g : Nat} {a n : Int} {L : List UInt8} (h : Pst w0 g none a n L w) (hB : B ≤ w0.heap.size) (hg : B ≤ g) : Below B w0 w := by
  obtain ⟨v, _, _, h3, _⟩ := h
  exact h3.below hB fun i hi ho => by
    rcases ho with rfl | ho
    · omega
    · cases ho
/-- What taking out leaves. -/
theorem Pst.take {w0 w : World} {g : Nat} {a n : Int} {L : List UInt8} {v : Value} (h1 : w.heap[g]? = some (ptC v a n)) (h2 : OwnB 0 w v L) (h3 : Kp (fun b => b = g ∨ (none : Option Nat) = some b) w0 w) (h4 : v.ownBlock = none ∨ ∃ b, v.ownBlock = some b ∧ w0.heap.size ≤ b) :
    OwnB w0.heap.size (w.setCell ⟨g, 0, none⟩ (.slice none 0 0)) v L ∧ Kp (fun b => b = g) w0 (w.setCell ⟨g, 0, none⟩ (.slice none 0 0)) ∧ Pst (w.setCell ⟨g, 0, none⟩ (.slice none 0 0)) g none a n [] (w.setCell ⟨g, 0, none⟩ (.slice none 0 0)) ∧ v.ownBlock ≠ some g := by
  have hne := row_ne h1 h2
  refine ⟨?_, ?_, ⟨_, heap_cell0 h1 _, OwnB.nil _ _, Kp.refl _ _, .inl rfl⟩, hne⟩
  · refine (OwnB.rebase h2 fun b hb => ?_).kp (O := fun b => b = g) (Kp.setCell (O := fun b => b = g) (Kp.refl _ _) ⟨g, 0, none⟩ (.inr rfl) _) fun b hb e => hne (e ▸ hb)
    rcases h4 with e | ⟨c, e, hc⟩
    · rw [e] at hb; cases hb
    · rw [e] at hb; injection hb with hb; omega
  · refine Kp.setCell (O := fun b => b = g) (h3.mono fun i _ ho => ?_) ⟨g, 0, none⟩ (.inr rfl) _
    rcases ho with e | e
    · exact e
    · cases e
end Sl

section
variable {w0 w : World} {g : Nat} {lr : Option Nat} {a n : Int} {L : List UInt8}
theorem sput_P (h : Sl.Pst w0 g lr a n L w) (hL : L.length ≤ 100) (x : Int) (size : Nat) (hs : size ≤ 8) :
    Calls Try.prog 25 #[.pointer (some ⟨g, 0, none⟩), .int .i64 x, .int .i64 size] w fun e w' => e = .returned (.tuple #[]) ∧ Sl.Pst w0 g lr a n (L ++ Sl.beb x size) w' := by
  obtain ⟨v, h1, h2, h3, h4⟩ := h
  exact (sput_any h1 h2 hL x size hs).mono fun _ _ ⟨e, hp⟩ => ⟨e, Sl.Pst.chain h3 h4 hp⟩
theorem stake_P (h : Sl.Pst w0 g none a n L w) :
    Calls Try.prog 21 #[.pointer (some ⟨g, 0, none⟩)] w fun e w' => ∃ v, e = .returned v ∧ OwnB w0.heap.size w' v L ∧ Kp (fun b => b = g) w0 w' ∧ Sl.Pst w' g none a n [] w' ∧ v.ownBlock ≠ some g := by
  obtain ⟨v, h1, h2, h3, h4⟩ := h
  refine (stake_any h1 h2).mono ?_
  rintro e w' ⟨rfl, rfl⟩
  exact ⟨v, rfl, Sl.Pst.take h1 h2 h3 h4⟩
theorem pointOf_P (a n : Int) (w : World) :
    Calls Try.prog 18 #[.agg #[.int .i64 a, .int .i64 n]] w fun e w' => ∃ g, e = .returned (.pointer (some ⟨g, 0, none⟩)) ∧ w.heap.size ≤ g ∧ Sl.Pst w' g none (Sl.lim a) n [] w' ∧ Below w.heap.size w w' := by
  refine (pointOf_any a n w).mono ?_
  rintro e w' ⟨rfl, rfl⟩
  refine ⟨_, rfl, by omega, ⟨_, ?_, OwnB.nil _ _, Kp.refl _ _, .inl rfl⟩, (by repeat (first | exact Below.refl _ _ | assumption | refine Below.setCell ?_ (by first | (simp; done) | omega | (simp; omega) | (simp at *; omega)) _ | refine Below.alloc ?_ (by first | (simp; done) | omega | (simp; omega) | (simp at *; omega)) _ | refine Below.drew ?_ | (refine Below.trans ?_ (Below.mono (by assumption) (by first | (simp; done) | omega | (simp; omega) | (simp at *; omega)))) | (refine Below.trans ?_ (Below.mono (below_regrown _ _ _) (by first | (simp; done) | omega | (simp; omega) | (simp at *; omega))))))⟩
  have := heap_alloc_new (w.alloc (.cells #[.int .i64 a, .int .i64 n] 29)) (Sl.ptC (.slice none 0 0) (Sl.lim a) n)
  simpa using this

set_option maxHeartbeats 1000000 in
theorem putAt_P (h : Sl.Pst w0 g lr a n L w) (hL : L.length ≤ 100) :
    Calls Try.prog 19 #[.pointer (some ⟨g, 0, none⟩)] w fun e w' => e = .returned (.tuple #[]) ∧ Sl.Pst w0 g lr a n (L ++ Sl.beb a 4) w' := by
  have HC : Hid (∀ W : World, W.heap = w.heap → W.os = w.os → W.tape = w.tape → W.output = w.output → Calls Try.prog 25 #[.pointer (some ⟨g, 0, none⟩), .int .i64 a, .int .i64 4] W fun e w' => e = .returned (.tuple #[]) ∧ Sl.Pst w0 g lr a n (L ++ Sl.beb a 4) w') := Lib.hid fun W e1 e2 e3 e4 => by
    obtain ⟨v, h1, h2, h3, h4⟩ := h
    exact sput_P (w := W) ⟨v, by rw [e1]; exact h1, owns_keep h2 fun _ _ => by rw [e1], ⟨e2.trans h3.os, e3.trans h3.tape, e4.trans h3.output, by rw [e1]; exact h3.size, by rw [e1]; exact h3.block⟩, h4⟩ hL a 4 (by omega)
  have HCD := Lib.hid (HC.out w.drew rfl rfl rfl rfl)
  obtain ⟨v, h1, h2, h3, h4⟩ := h
  obtain ⟨d0, d1, d2, d3, d4⟩ := Sl.pt_cells h1
  clear h1 h2 h3 h4 d3
  go_enter Try.func19, Try.ntmps19
  go_wp2_with fail
  go_region_with (go_at_call 25; refine HCD.out.mono ?_; rintro e w' ⟨rfl, hp⟩; have HP := Lib.hid hp; clear hp)
  go_wp2_with fail
  ((try simp only [Exit.inBlock, Exit.then]); first | (refine bodyPost_ret (results_none rfl _ _ _) rfl ?_) | (refine bodyPost_end (results_none rfl _ _ _) rfl ?_))
  exact ⟨rfl, HP.out⟩

set_option maxHeartbeats 1000000 in
theorem putN_P (h : Sl.Pst w0 g lr a n L w) (hL : L.length ≤ 100) :
    Calls Try.prog 20 #[.pointer (some ⟨g, 0, none⟩)] w fun e w' => e = .returned (.tuple #[]) ∧ Sl.Pst w0 g lr a n (L ++ Sl.beb n 8) w' := by
  have HC : Hid (∀ W : World, W.heap = w.heap → W.os = w.os → W.tape = w.tape → W.output = w.output → Calls Try.prog 25 #[.pointer (some ⟨g, 0, none⟩), .int .i64 n, .int .i64 8] W fun e w' => e = .returned (.tuple #[]) ∧ Sl.Pst w0 g lr a n (L ++ Sl.beb n 8) w') := Lib.hid fun W e1 e2 e3 e4 => by
    obtain ⟨v, h1, h2, h3, h4⟩ := h
    exact sput_P (w := W) ⟨v, by rw [e1]; exact h1, owns_keep h2 fun _ _ => by rw [e1], ⟨e2.trans h3.os, e3.trans h3.tape, e4.trans h3.output, by rw [e1]; exact h3.size, by rw [e1]; exact h3.block⟩, h4⟩ hL n 8 (by omega)
  have HCD := Lib.hid (HC.out w.drew rfl rfl rfl rfl)
  obtain ⟨v, h1, h2, h3, h4⟩ := h
  obtain ⟨d0, d1, d2, d3, d4⟩ := Sl.pt_cells h1
  clear h1 h2 h3 h4 d3
  go_enter Try.func20, Try.ntmps20
  go_wp2_with fail
  go_region_with (go_at_call 25; refine HCD.out.mono ?_; rintro e w' ⟨rfl, hp⟩; have HP := Lib.hid hp; clear hp)
  go_wp2_with fail
  ((try simp only [Exit.inBlock, Exit.then]); first | (refine bodyPost_ret (results_none rfl _ _ _) rfl ?_) | (refine bodyPost_end (results_none rfl _ _ _) rfl ?_))
  exact ⟨rfl, HP.out⟩
end

set_option maxHeartbeats 1000000 in
theorem sencode_any (a n : Int) (w : World) :
    Calls Try.prog 12 #[.agg #[.int .i64 a, .int .i64 n]] w fun e w' => ∃ v, e = .returned v ∧ OwnB w.heap.size w' v (Sl.enc a n) ∧ Below w.heap.size w w' := by
  go_enter Try.func12, Try.ntmps12
  go_wp2_with first
    | (go_at_call 18; (with_reducible refine (pointOf_P a n _).mono ?_); rintro e w1 ⟨g, rfl, hg, hp1, hb1⟩; have HP1 := Lib.hid hp1; have HB1 : Hid (Below w.heap.size w w1) := Lib.hid (lowBox' (hb1.mono (by simp))); have hg1 : w.heap.size ≤ g := Nat.le_trans (by simp) hg; have hz1 : w.heap.size ≤ w1.heap.size := Nat.le_trans (by simp) hb1.size; clear hp1 hb1 hg)
    | (go_at_call 19; (with_reducible refine (putAt_P HP1.out (by simp)).mono ?_); rintro e w2 ⟨rfl, hp2⟩; have HP2 := Lib.hid hp2; clear hp2)
    | (go_at_call 20; (with_reducible refine (putN_P HP2.out (by simp [Sl.beb_len])).mono ?_); rintro e w3 ⟨rfl, hp3⟩; have HP3 := Lib.hid hp3; clear hp3)
    | (go_at_call 21; (with_reducible refine (stake_P HP3.out).mono ?_); rintro e w4 ⟨v, rfl, ho4, hk4, hp4, hne4⟩; have HO4 := Lib.hid ho4; have HK4 := Lib.hid hk4; clear ho4 hk4 hp4 hne4)
  go_ret
  have hb : Below w.heap.size w1 w4 := HK4.out.below hz1 (fun i hi e => by omega)
  refine ⟨_, rfl, OwnB.base HO4.out hz1, HB1.out.trans hb⟩
end Go.Proofs.Ytefegcmicnlphaa
