/-
  CONTRACTS: chapter 11: a branch.
-/
import Derived.Test.YtajijcnfhijanaaRxPie
namespace Go.Proofs.Ytajijcnfhijanaa
open Go.RowKit
open Me

namespace Rx
/-- A branch under way. -/
structure BrW (w W : World) (b : Nat) (l : List UInt8) (g d : Nat) (v : Value) (acc : List In) : Prop where
  took : Took w b l g d W
  em : EmAt W w.heap.size v acc
  lt : b < w.heap.size
theorem BrW.start {w : World} {b g d : Nat} {l : List UInt8} (h : PsAt w b l g d) : BrW w (w.alloc (.cells #[.slice none 0 0] 45)) b l g d (.slice none 0 0) [] :=
  ⟨(Took.refl h).on ((Below.refl _ _).alloc (Nat.le_refl _) _), EmAt.new w, h.lt⟩
theorem BrW.took_ {w W W' : World} {b g d g2 d2 : Nat} {l m : List UInt8} {v : Value} {acc : List In} (h : BrW w W b l g d v acc) (k : Took W b m g2 d2 W') : BrW w W' b m g2 d2 v acc := by
  have := h.lt
  exact ⟨h.took.trans k, h.em.kp k.kp fun i hi _ e => by omega, h.lt⟩
theorem BrW.emitted {w W W' : World} {b g d : Nat} {l : List UInt8} {v : Value} {acc acc2 : List In} {e : Ending} (h : BrW w W b l g d v acc) (k : Emitted W w.heap.size acc2 e W') : e = .returned (.tuple #[]) ∧ ∃ v', BrW w W' b l g d v' acc2 := by
  obtain ⟨h1, v', h2, h3⟩ := k
  have hl := h.lt
  exact ⟨h1, v', ⟨(h3.block b h.took.at_.lt (by omega)).trans h.took.at_, h.took.kp.trans h3 fun i hi e => by omega⟩, h2, hl⟩
theorem BrW.left {w W : World} {b g d : Nat} {l : List UInt8} {v : Value} {acc : List In} (h : BrW w W b l g d v acc) : Rx.left W b = l.length := by
  unfold Rx.left
  rw [h.took.at_.c0]
  show l.toArray.size = _
  simp
theorem BrW.c0 {w W : World} {b g d : Nat} {l : List UInt8} {v : Value} {acc : List In} (h : BrW w W b l g d v acc) : W.cell? ⟨w.heap.size, 0, none⟩ = some v := (h.em.row.cell 0).trans rfl
theorem BrW.done {w W : World} {b g d : Nat} {l : List UInt8} {v : Value} {acc : List In} (h : BrW w W b l g d v acc) : Parsed w b d (.ok (acc, l, g)) (.returned (.tuple #[v, .int .i64 0])) W :=
  Parsed.ok h.took (h.em.own.rd) (Nat.le_succ _)
theorem stops_cons (a : UInt8) (t : List UInt8) : stops (a :: t) = (starts 124 (a :: t) || starts 41 (a :: t)) := by unfold stops; rfl
end Rx

set_option maxHeartbeats 8000000 in
theorem branch_of {n : Nat} {E : List UInt8 → Nat → Nat → Rx.Res} (hE : Rx.ExprC n E) (hS : Rx.Short E) {w : World} {b g d : Nat} {s : List UInt8} (h : Rx.PsAt w b s g d) (hs : s.length ≤ n) (hg : g + s.length ≤ 8192) (hd : d ≤ 64) :
    Calls Try.prog 19 #[.pointer (some ⟨b, 0, none⟩)] w (Rx.Parsed w b d (Rx.branchE E (s.length + 1) [] s g d)) := by
  have HS0 := Lib.hid (Rx.BrW.start h)
  have HR0 : Hid (∃ m, s.length < m ∧ Rx.branchE E m [] s g d = Rx.branchE E (s.length + 1) [] s g d) := Lib.hid ⟨_, Nat.lt_succ_self _, rfl⟩
  have hbl := h.lt
  have HP : Hid (∀ (a : UInt8) (t : List UInt8) (g2 : Nat) (W : World), Rx.PsAt W b (a :: t) g2 d → t.length < n → g2 + t.length + 1 ≤ 8192 → Calls Try.prog 27 #[.pointer (some ⟨b, 0, none⟩)] W (Rx.Parsed W b d (Rx.pieceE E (a :: t) g2 d))) := Lib.hid fun a t g2 W h h1 h2 => piece_of hE hS h h1 h2 hd
  have HSh := Lib.hid hS
  have hs16 : s.length ≤ 8192 := by omega
  generalize Rx.branchE E (s.length + 1) [] s g d = R at *
  clear h hE hS
  go_enter Try.func19, Try.ntmps19
  go_wp2_with fail
  generalize w.alloc (.cells #[.slice none 0 0] 45) = ws at *
  go_loopw [5, 6] (fun _ _ wr => ∃ (m : List UInt8) (g2 : Nat) (v : Value) (acc : List Rx.In), m.length ≤ n ∧ Hid (∃ k, m.length < k ∧ Rx.branchE E k acc m g2 d = R) ∧ Hid (g2 + m.length ≤ 8192 ∧ acc.length + 2 * m.length ≤ 16384) ∧ Hid (Rx.BrW w wr b m g2 d v acc)) (fun _ _ wr => Rx.left wr b)
  case atStart => exact ⟨s, g, _, [], hs, HR0, Lib.hid ⟨hg, by simp; omega⟩, HS0⟩
  case round =>
    obtain ⟨m, g2, v, acc, hm, HK, HB, HS⟩ := hrel
    obtain ⟨k, HKR⟩ : ∃ k, Hid (m.length < k + 1 ∧ Rx.branchE E (k + 1) acc m g2 d = R) := by
      obtain ⟨k, h1, h2⟩ := HK.out
      obtain ⟨j, rfl⟩ : ∃ j, k = j + 1 := ⟨k - 1, by omega⟩
      exact ⟨j, Lib.hid ⟨h1, h2⟩⟩
    clear HK
    have d0 := HS.out.took.at_.c0
    have x0 := HS.out.c0
    have HMS := Lib.hid HS.out.left
    obtain ⟨Av, nv, cv, rfl⟩ := own_slice HS.out.em.own
    cases m with
    | nil =>
      have HR : Hid (.ok (acc, [], g2) = R) := Lib.hid (HKR.out.2.symm.trans rfl).symm
      clear HKR
      go_wp2_with fail
      ((try simp only [Exit.inBlock, Exit.then]); refine bodyPost_ret (results_tmp2 rfl _ _ _) rfl ?_)
      rw [← HR.out]
      exact HS.out.done
    | cons a t =>
      have HB1 := Lib.hid (begins_one HS.out.took.at_ 124)
      have HB2 := Lib.hid (begins_one HS.out.took.at_ 41)
      have HSt := Lib.hid (Rx.stops_cons a t)
      cases h1 : Rx.starts 124 (a :: t)
      · rw [h1] at HB1 HSt
        cases h2 : Rx.starts 41 (a :: t)
        · rw [h2] at HB2 HSt
          have HQ : Hid ((match Rx.pieceE E (a :: t) g2 d with
            | .error e => .error e
            | .ok (x, r, g3) => Rx.branchE E k (acc ++ x) r g3 d) = R) := Lib.hid (by rw [← HKR.out.2, Rx.branchE, HSt.out]; rfl)
          clear h1 h2
          have HPc := Lib.hid (HP.out a t g2 _ HS.out.took.at_ (by have := hm; simp at this; omega) (by have := HB.out.1; simp at this; omega))
          cases hq : Rx.pieceE E (a :: t) g2 d with
          | error er =>
            rw [hq] at HQ
            have HQ2 : Hid (.error er = R) := HQ
            have HR := Lib.hid hq
            clear hq HQ
            go_wp2_with first
              | (go_at_call 26; ((with_reducible refine (HB1.out).mono ?_); rintro e w1 ⟨rfl, rfl⟩))
              | (go_at_call 26; ((with_reducible refine (HB2.out).mono ?_); rintro e w1 ⟨rfl, rfl⟩))
              | (go_at_call 27; go_must (refine (HPc.out).mono ?_; rintro e w2 hq; rw [HR.out] at hq; obtain ⟨h0, rfl, hk⟩ := hq.bad; have HKp := Lib.hid (HS.out.took.kp.trans hk fun _ _ h => h); clear hk hq))
            ((try simp only [Exit.inBlock, Exit.then]); refine bodyPost_ret (results_tmp2 rfl _ _ _) rfl ?_)
            rw [← HQ2.out]
            exact Rx.Parsed.err HKp.out h0
          | ok y =>
            obtain ⟨x, r, g3⟩ := y
            rw [hq] at HQ
            have HQ2 : Hid (Rx.branchE E k (acc ++ x) r g3 d = R) := HQ
            have HR := Lib.hid hq
            have HLn := Lib.hid (Rx.pieceE_len HSh.out hq)
            have HLe : Hid (acc.length + x.length ≤ 1048576) := Lib.hid (by have := HLn.out.1; have := HB.out.2; omega)
            clear hq HQ
            go_wp2_with first
              | (go_at_call 26; ((with_reducible refine (HB1.out).mono ?_); rintro e w1 ⟨rfl, rfl⟩))
              | (go_at_call 26; ((with_reducible refine (HB2.out).mono ?_); rintro e w1 ⟨rfl, rfl⟩))
              | (go_at_call 27; go_must (refine (HPc.out).mono ?_; rintro e w2 hq; rw [HR.out] at hq; obtain ⟨vx, rfl, hv, ht⟩ := hq.got; have HV := Lib.hid hv; have HS2 := Lib.hid (HS.out.took_ ht); clear hv ht hq))
              | (go_at_call 13; go_must (refine (emit_any HS2.out.em HV.out HLe.out).mono ?_; rintro e w3 hq; obtain ⟨rfl, v3, hs3⟩ := HS2.out.emitted hq; have HS3 := Lib.hid hs3; clear hs3 hq))
            go_roundw
            case rel => exact ⟨r, g3, v3, _, by have := HLn.out.2.2; omega, Lib.hid ⟨k, by have := HLn.out.2.2; have := HKR.out.1; omega, HQ2.out⟩, Lib.hid ⟨by have := HLn.out.2.1; have := HB.out.1; omega, by rw [List.length_append]; have := HLn.out.1; have := HB.out.2; omega⟩, HS3⟩
            case measure => rw [HMS.out, HS3.out.left]; exact HLn.out.2.2
        · rw [h2] at HB2 HSt
          have HR : Hid (.ok (acc, a :: t, g2) = R) := Lib.hid (by rw [← HKR.out.2, Rx.branchE, HSt.out]; rfl)
          clear HKR h1 h2
          go_wp2_with first
            | (go_at_call 26; ((with_reducible refine (HB1.out).mono ?_); rintro e w1 ⟨rfl, rfl⟩))
            | (go_at_call 26; ((with_reducible refine (HB2.out).mono ?_); rintro e w1 ⟨rfl, rfl⟩))
          ((try simp only [Exit.inBlock, Exit.then]); refine bodyPost_ret (results_tmp2 rfl _ _ _) rfl ?_)
          rw [← HR.out]
          exact HS.out.done
      · rw [h1] at HB1 HSt
        have HR : Hid (.ok (acc, a :: t, g2) = R) := Lib.hid (by rw [← HKR.out.2, Rx.branchE, HSt.out]; rfl)
        clear HKR h1
        go_wp2_with first
          | (go_at_call 26; ((with_reducible refine (HB1.out).mono ?_); rintro e w1 ⟨rfl, rfl⟩))
        ((try simp only [Exit.inBlock, Exit.then]); refine bodyPost_ret (results_tmp2 rfl _ _ _) rfl ?_)
        rw [← HR.out]
        exact HS.out.done
end Go.Proofs.Ytajijcnfhijanaa
