/-
  CONTRACTS: chapter 3's law: the document's half of an act.
-/
import Derived.Test.YtiacpopgnmledaaVsDuo
import Derived.Deep.RegionWith
namespace Go.Proofs.Ytiacpopgnmledaa
open Go.RowKit
open Me Vf
namespace Vs
/-- What the law's act leaves. -/
def Acted (w : World) (U : Nat → Prop) (fs xs N c : Nat) (S1 S2 S1' S2' : Sv) (e : Ending) (w' : World) : Prop := ∃ r : Bool, e = .returned (.bool r) ∧ (S1 = S2 → r = true) ∧ DuoNext w U fs xs N c S1' S2' w'
theorem DuoNext.below {w w1 w2 : World} {U : Nat → Prop} {fs xs N c : Nat} {S1 S2 : Sv} (h : DuoNext w U fs xs N c S1 S2 w1) (b : Below w1.heap.size w1 w2) : DuoNext w U fs xs N c S1 S2 w2 := by
  obtain ⟨U', h1, h2, h3⟩ := h
  exact ⟨U', h1.below b, h2.trans (Kp.of_below (O := fun _ => False) b) (fun _ _ h => h.elim), h3⟩
theorem DuoNext.drew {w w1 : World} {U : Nat → Prop} {fs xs N c : Nat} {S1 S2 : Sv} (h : DuoNext w U fs xs N c S1 S2 w1) : DuoNext w U fs xs N c S1 S2 w1.drew := h.below ⟨rfl, rfl, rfl, Nat.le_refl _, fun _ _ => rfl⟩
theorem Half.create {w w1 : World} {U Gq : Nat → Prop} {fs xs N c : Nat} {S1' S2 : Sv} {v : Value} (n : List UInt8) (ps : List (List UInt8)) (h : Half w U fs xs N c (c + 1) S1' S2 w1) (hp : Vf.Ps w1 Gq v ps) (hc : c ≤ 4096) (hl : ps.length ≤ 1048576) (ht : ps.flatten.length ≤ 1048576) :
    Calls Try.prog 22 #[.pointer (some ⟨xs, 0, none⟩), .string ⟨n.toArray⟩, v] w1 fun e w2 => e = .returned (.int .i64 (Vf.create S2 n ps.flatten).2) ∧ Hid (DuoNext w U fs xs N (c + 1) S1' (Vf.create S2 n ps.flatten).1 w2) ∧ Kp (fun b => U b ∧ b < w.heap.size) w1 w2 := by
  obtain ⟨M, M', G, lr, nv, wv, lv, ys, q1, q2, q3, q4, q5, q6, q7, q8, q9, q10⟩ := h
  have i1 := q6.last
  have i2 := q6.room0
  have i3 := q6.room1
  have i4 := q6.len
  refine (create_any q2 n ps v hp (by omega) (by omega) (by omega) i2 (by omega) hl (by omega)).mono ?_
  rintro e w2 ⟨rfl, G', lr', nv', wv', lv', ys', r1, r2, r3, r4⟩
  exact ⟨rfl, Lib.hid (Half.join q1 q3 q4 q5 q7 q8 q9 q10 r1 r2 r3 r4 (q6.create _ _)), r2.mono (fun b _ e => e.elim (fun e => e ▸ q9) (q10 b))⟩
theorem Half.write {w w1 : World} {U Gq : Nat → Prop} {fs xs N c : Nat} {S1' S2 : Sv} {v : Value} (n : List UInt8) (t : Int) (ps : List (List UInt8)) (h : Half w U fs xs N c (c + 1) S1' S2 w1) (hp : Vf.Ps w1 Gq v ps) (hc : c ≤ 4096) (hl : ps.length ≤ 1048576) (ht : ps.flatten.length ≤ 1048576) :
    Calls Try.prog 23 #[.pointer (some ⟨xs, 0, none⟩), .string ⟨n.toArray⟩, .int .i64 t, v] w1 fun e w2 => e = .returned (.int .i64 (Vf.write S2 n t ps.flatten).2) ∧ Hid (DuoNext w U fs xs N (c + 1) S1' (Vf.write S2 n t ps.flatten).1 w2) ∧ Kp (fun b => U b ∧ b < w.heap.size) w1 w2 := by
  obtain ⟨M, M', G, lr, nv, wv, lv, ys, q1, q2, q3, q4, q5, q6, q7, q8, q9, q10⟩ := h
  have i1 := q6.last
  have i3 := q6.room1
  have i4 := q6.len
  refine (write_any q2 n t ps v hp (by omega) (by omega) (by omega) hl (by omega)).mono ?_
  rintro e w2 ⟨rfl, G', lr', nv', wv', lv', ys', r1, r2, r3, r4⟩
  exact ⟨rfl, Lib.hid (Half.join q1 q3 q4 q5 q7 q8 q9 q10 r1 r2 r3 r4 (q6.write _ _ _)), r2.mono (fun b _ e => e.elim (fun e => e ▸ q9) (q10 b))⟩
theorem Half.remove {w w1 : World} {U : Nat → Prop} {fs xs N c : Nat} {S1' S2 : Sv} (n : List UInt8) (h : Half w U fs xs N c (c + 1) S1' S2 w1) (hc : c ≤ 4096) :
    Calls Try.prog 25 #[.pointer (some ⟨xs, 0, none⟩), .string ⟨n.toArray⟩] w1 fun e w2 => e = .returned (.int .i64 (Vf.remove S2 n).2) ∧ Hid (DuoNext w U fs xs N (c + 1) S1' (Vf.remove S2 n).1 w2) ∧ Kp (fun b => U b ∧ b < w.heap.size) w1 w2 := by
  obtain ⟨M, M', G, lr, nv, wv, lv, ys, q1, q2, q3, q4, q5, q6, q7, q8, q9, q10⟩ := h
  have i1 := q6.last
  have i3 := q6.room1
  have i4 := q6.len
  refine (remove_any q2 n (by omega) (by omega) (by omega)).mono ?_
  rintro e w2 ⟨rfl, G', lr', nv', wv', lv', ys', r1, r2, r3, r4⟩
  exact ⟨rfl, Lib.hid (Half.join q1 q3 q4 q5 q7 q8 q9 q10 r1 r2 r3 r4 (q6.remove _)), r2.mono (fun b _ e => e.elim (fun e => e ▸ q9) (q10 b))⟩
theorem Half.sync {w w1 : World} {U : Nat → Prop} {fs xs N c : Nat} {S1' S2 : Sv} (h : Half w U fs xs N c (c + 1) S1' S2 w1) :
    Calls Try.prog 13 #[.pointer (some ⟨xs, 0, none⟩)] w1 fun e w2 => e = .returned (.tuple #[]) ∧ Hid (DuoNext w U fs xs N (c + 1) S1' { S2 with was := S2.now, l := [] } w2) ∧ Kp (fun b => U b ∧ b < w.heap.size) w1 w2 := by
  obtain ⟨M, M', G, lr, nv, wv, lv, ys, q1, q2, q3, q4, q5, q6, q7, q8, q9, q10⟩ := h
  refine (sync_any q2).mono ?_
  rintro e w2 ⟨rfl, r1, r2⟩
  exact ⟨rfl, Lib.hid (Half.join q1 q3 q4 q5 q7 q8 q9 q10 r1 (r2.mono (fun _ _ h => .inl h)) (fun b hb => .inl hb) (fun _ h => nomatch h) (q6.sync.mono (Nat.le_succ _))), r2.mono (fun b _ e => e ▸ q9)⟩
theorem Half.crash {w w1 : World} {U : Nat → Prop} {fs xs N c : Nat} {S1' S2 : Sv} (n m : Int) (h : Half w U fs xs N c (c + 1) S1' S2 w1) (hc : c ≤ 4096) :
    Calls Try.prog 26 #[.pointer (some ⟨xs, 0, none⟩), .int .i64 n, .int .i64 m] w1 fun e w2 => e = .returned (.tuple #[]) ∧ Hid (DuoNext w U fs xs N (c + 1) S1' ⟨S2.room, Vf.crash S2 n m, Vf.crash S2 n m, []⟩ w2) ∧ Kp (fun b => U b ∧ b < w.heap.size) w1 w2 := by
  obtain ⟨M, M', G, lr, nv, wv, lv, ys, q1, q2, q3, q4, q5, q6, q7, q8, q9, q10⟩ := h
  have i4 := q6.len
  refine (crash_any q2 n m (by omega) (Lib.hid (q6.sound (by omega)))).mono ?_
  rintro e w2 ⟨rfl, G', v, r1, r2, r3⟩
  exact ⟨rfl, Lib.hid (Half.join q1 q3 q4 q5 q7 q8 q9 q10 r1 (r2.mono (fun _ _ h => .inl h)) r3 (fun _ h => nomatch h) (q6.crash _ _)), r2.mono (fun b _ e => e ▸ q9)⟩
theorem Duo.sizes {w : World} {U : Nat → Prop} {fs xs N c : Nat} {S1 S2 : Sv} (h : Duo w U fs xs N c S1 S2) (n : List UInt8) (hc : c ≤ 4096) :
    (Calls Try.prog 28 #[.pointer (some ⟨fs, 0, none⟩), .string ⟨n.toArray⟩] w fun e w' => e = .returned (.tuple #[.int .i64 (Vf.size S1.now n).1, .int .i64 (Vf.size S1.now n).2]) ∧ w = w') ∧
    (Calls Try.prog 29 #[.pointer (some ⟨xs, 0, none⟩), .string ⟨n.toArray⟩] w fun e w' => e = .returned (.tuple #[.int .i64 (Vf.size S2.now n).1, .int .i64 (Vf.size S2.now n).2]) ∧ w = w') := by
  obtain ⟨M, G, lr, nv, wv, lv, ys, h1, h2, h3, h4, _⟩ := h
  have i4 := h4.last
  exact ⟨psize_any h1 n, size_any h2 n (by omega)⟩
end Vs
end Go.Proofs.Ytiacpopgnmledaa
