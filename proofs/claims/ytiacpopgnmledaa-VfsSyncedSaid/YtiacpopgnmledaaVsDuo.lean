/-
  THE PROGRAM's FILES AND THE DOCUMENT's, side by side in one memory.
-/
import Derived.Test.YtiacpopgnmledaaVsOpen
import Derived.Test.YtiacpopgnmledaaVrMake
import Derived.Test.YtiacpopgnmledaaVrRead
import Derived.Test.YtiacpopgnmledaaVrWrite
import Derived.Test.YtiacpopgnmledaaVrCrash
import Derived.Test.YtiacpopgnmledaaVrSound
import Derived.Test.YtiacpopgnmledaaVsSame
namespace Go.Proofs.Ytiacpopgnmledaa
open Go.RowKit
open Me Vf
namespace Vs
/-- The program's files at fs in the state S1, the document's at xs in the state S2, all in blocks of U. -/
def Duo (w : World) (U : Nat → Prop) (fs xs N c : Nat) (S1 S2 : Sv) : Prop :=
  ∃ M G lr nv wv lv ys, Vp.Pg w M fs N S1 ∧ At w G xs lr S2 nv wv lv ys ∧ Vf.Inv c S1 ∧ Vf.Inv c S2 ∧ (∀ b, M b → U b ∧ b < w.heap.size ∧ ¬ G b ∧ b ≠ xs ∧ lr ≠ some b) ∧ (∀ b, G b → U b) ∧ U xs ∧ ∀ g, lr = some g → U g
/-- What an act leaves of both. -/
def DuoNext (w : World) (U : Nat → Prop) (fs xs N c : Nat) (S1 S2 : Sv) (w' : World) : Prop := ∃ U', Duo w' U' fs xs N c S1 S2 ∧ Kp U w w' ∧ ∀ b, U' b → U b ∨ w.heap.size ≤ b
theorem Duo.kp {w w' : World} {U O : Nat → Prop} {fs xs N c : Nat} {S1 S2 : Sv} (h : Duo w U fs xs N c S1 S2) (k : Kp O w w') (hO : ∀ b, O b → ¬ U b) : Duo w' U fs xs N c S1 S2 := by
  obtain ⟨M, G, lr, nv, wv, lv, ys, h1, h2, h3, h4, h5, h6, h7, h8⟩ := h
  exact ⟨M, G, lr, nv, wv, lv, ys, h1.kp k (fun b ho hm => hO b ho (h5 b hm).1), h2.kp k (fun b ho => ⟨fun hg => hO b ho (h6 b hg), fun e => hO b ho (e ▸ h7), fun e => hO b ho (h8 b e)⟩), h3, h4, fun b hb => ⟨(h5 b hb).1, Nat.lt_of_lt_of_le (h5 b hb).2.1 k.size, (h5 b hb).2.2⟩, h6, h7, h8⟩
theorem Duo.below {w w' : World} {U : Nat → Prop} {fs xs N c : Nat} {S1 S2 : Sv} (h : Duo w U fs xs N c S1 S2) (b : Below w.heap.size w w') : Duo w' U fs xs N c S1 S2 := h.kp (O := fun _ => False) (Kp.of_below b) (fun _ o => o.elim)
theorem Duo.more {w : World} {U : Nat → Prop} {fs xs N N' c c' : Nat} {S1 S2 : Sv} (h : Duo w U fs xs N c S1 S2) (hN : N ≤ N') (hc : c ≤ c') : Duo w U fs xs N' c' S1 S2 := by
  obtain ⟨M, G, lr, nv, wv, lv, ys, h1, h2, h3, h4, h5⟩ := h
  exact ⟨M, G, lr, nv, wv, lv, ys, h1.more hN, h2, h3.mono hc, h4.mono hc, h5⟩
theorem DuoNext.same {w w' : World} {U : Nat → Prop} {fs xs N N' c c' : Nat} {S1 S2 : Sv} (h : Duo w U fs xs N c S1 S2) (hN : N ≤ N') (hc : c ≤ c') (b : Below w.heap.size w w') : DuoNext w U fs xs N' c' S1 S2 w' :=
  ⟨U, (h.below b).more hN hc, Kp.of_below b, fun _ hb => .inl hb⟩
/-- The document's half, once the program's has acted. -/
def Half (w : World) (U : Nat → Prop) (fs xs N c c' : Nat) (S1' S2 : Sv) (w1 : World) : Prop :=
  ∃ M M' G lr nv wv lv ys, Vp.Pg w1 M' fs N S1' ∧ At w1 G xs lr S2 nv wv lv ys ∧ Kp M w w1 ∧ (∀ b, M' b → M b ∨ w.heap.size ≤ b) ∧ Vf.Inv c' S1' ∧ Vf.Inv c S2 ∧ (∀ b, M b → U b ∧ b < w.heap.size ∧ ¬ G b ∧ b ≠ xs ∧ lr ≠ some b) ∧ (∀ b, G b → U b ∧ b < w.heap.size) ∧ (U xs ∧ xs < w.heap.size) ∧ ∀ g, lr = some g → U g ∧ g < w.heap.size
/-- The program's half. -/
theorem Duo.prog {w W : World} {U : Nat → Prop} {fs xs N N' c c' f : Nat} {S1 S1' S2 : Sv} {args : Array Value} {v : Value} (h : Duo w U fs xs N c S1 S2) (hW : Below w.heap.size w W) (hi : Vf.Inv c S1 → Vf.Inv c' S1')
    (hc : ∀ M, Vp.Pg W M fs N S1 → (∀ b, M b → U b ∧ b < w.heap.size) → Calls Try.prog f args W (Vp.PNext W M fs N' S1' v)) : Calls Try.prog f args W fun e w' => e = .returned v ∧ Hid (Half w U fs xs N' c c' S1' S2 w') ∧ Kp (fun b => U b ∧ b < w.heap.size) W w' := by
  obtain ⟨M, G, lr, nv, wv, lv, ys, h1, h2, h3, h4, h5, h6, h7, h8⟩ := h
  refine (hc M (h1.below hW) (fun b hb => ⟨(h5 b hb).1, (h5 b hb).2.1⟩)).mono ?_
  rintro e w' ⟨rfl, M', p1, p2, p3⟩
  have hlr : ∀ g, lr = some g → g < w.heap.size := fun g hg => (h2.own.lt g (h2.row.trans hg)).2
  refine ⟨rfl, Lib.hid ⟨M, M', G, lr, nv, wv, lv, ys, p1, (h2.below hW).kp p2 (fun b hb => (h5 b hb).2.2), (Kp.of_below hW).trans p2 (fun _ _ h => h), fun b hb => (p3 b hb).imp id (fun h => Nat.le_trans hW.size h), hi h3, h4, h5, fun b hb => ⟨h6 b hb, h2.lt b hb⟩, ⟨h7, h2.fsLt⟩, fun g hg => ⟨h8 g hg, hlr g hg⟩⟩, p2.mono (fun b _ hb => ⟨(h5 b hb).1, (h5 b hb).2.1⟩)⟩
/-- Both halves. -/
theorem Half.join {w w1 w2 : World} {U : Nat → Prop} {fs xs N c' : Nat} {S1' S2' : Sv} {M M' G G' : Nat → Prop} {lr lr' : Option Nat} {nv' wv' lv' : Value} {ys' : List Value}
    (q1 : Vp.Pg w1 M' fs N S1') (q3 : Kp M w w1) (q4 : ∀ b, M' b → M b ∨ w.heap.size ≤ b) (q5 : Vf.Inv c' S1') (q7 : ∀ b, M b → U b ∧ b < w.heap.size ∧ ¬ G b ∧ b ≠ xs ∧ lr ≠ some b) (q8 : ∀ b, G b → U b ∧ b < w.heap.size) (q9 : U xs ∧ xs < w.heap.size) (q10 : ∀ g, lr = some g → U g ∧ g < w.heap.size)
    (r1 : At w2 G' xs lr' S2' nv' wv' lv' ys') (r2 : Kp (fun b => b = xs ∨ lr = some b) w1 w2) (r3 : ∀ b, G' b → G b ∨ w1.heap.size ≤ b) (r4 : ∀ g, lr' = some g → lr = some g ∨ w1.heap.size ≤ g) (r5 : Vf.Inv c' S2') :
    DuoNext w U fs xs N c' S1' S2' w2 := by
  obtain ⟨M2, p1, p2⟩ := q1.tight
  have hs := q3.size
  have hdis : ∀ b, M2 b → b ≠ xs ∧ lr ≠ some b := fun b hb => by
    rcases q4 b (p2 b hb).1 with h | h
    · exact (q7 b h).2.2.2
    · exact ⟨fun e => by have := q9.2; omega, fun e => by have := (q10 b e).2; omega⟩
  refine ⟨fun b => U b ∨ w.heap.size ≤ b, ⟨M2, G', lr', nv', wv', lv', ys', p1.kp r2 (fun b ho hm => ho.elim (hdis b hm).1 (hdis b hm).2), r1, q5, r5, fun b hb => ⟨?_, Nat.lt_of_lt_of_le (p2 b hb).2 r2.size, fun hg => ?_, (hdis b hb).1, fun e => ?_⟩, fun b hb => ?_, .inl q9.1, fun g hg => ?_⟩, (q3.mono (fun b _ hb => (q7 b hb).1)).trans r2 (fun i _ ho => ho.elim (fun e => e ▸ q9.1) (fun e => (q10 i e).1)), fun b hb => hb⟩
  · rcases q4 b (p2 b hb).1 with h | h
    · exact .inl (q7 b h).1
    · exact .inr h
  · rcases r3 b hg with h | h
    · rcases q4 b (p2 b hb).1 with h1 | h1
      · exact (q7 b h1).2.2.1 h
      · have := (q8 b h).2; omega
    · have := (p2 b hb).2; omega
  · rcases r4 b e with h | h
    · exact (hdis b hb).2 h
    · have := (p2 b hb).2; omega
  · rcases r3 b hb with h | h
    · exact .inl (q8 b h).1
    · exact .inr (Nat.le_trans hs h)
  · rcases r4 g hg with h | h
    · exact .inl (q10 g h).1
    · exact .inr (Nat.le_trans hs h)
def step (S : Sv) (a : A) : Sv :=
  if a.kind = 1 then (Vf.create S a.name a.b.flatten).1 else if a.kind = 2 then (Vf.write S a.name a.off a.b.flatten).1 else if a.kind = 3 then (Vf.remove S a.name).1
  else if a.kind = 4 then { S with was := S.now, l := [] } else if a.kind = 5 then ⟨S.room, Vf.crash S a.off a.n, Vf.crash S a.off a.n, []⟩ else S
theorem step_inv {c : Nat} {S : Sv} (h : Vf.Inv c S) (a : A) : Vf.Inv (c + 1) (step S a) := by
  unfold step
  split
  · exact h.create _ _
  · split
    · exact h.write _ _ _
    · split
      · exact h.remove _
      · split
        · exact h.sync.mono (Nat.le_succ _)
        · split
          · exact h.crash _ _
          · exact h.mono (Nat.le_succ _)
theorem step_room (S : Sv) (a : A) : (step S a).room = S.room := by
  unfold step
  split
  · unfold Vf.create; repeat (first | rfl | split)
  · split
    · unfold Vf.write; repeat (first | rfl | split)
    · split
      · unfold Vf.remove; repeat (first | rfl | split)
      · repeat (first | rfl | split)
end Vs
end Go.Proofs.Ytiacpopgnmledaa
