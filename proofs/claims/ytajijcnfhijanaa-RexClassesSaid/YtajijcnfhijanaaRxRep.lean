/-
  CONTRACTS: chapter 11: a code as a group, a code that is repeated.
-/
import Derived.Test.YtajijcnfhijanaaRxEm
namespace Go.Proofs.Ytajijcnfhijanaa
open Go.RowKit
open Me

namespace Rx
/-- A function with a code in a box of its own, the first block that it lays. -/
structure BoxW (w W : World) (v : Value) (c : List In) : Prop where
  at_ : EmAt W w.heap.size v c
  below : Below w.heap.size w W
theorem BoxW.start (w : World) : BoxW w (w.alloc (.cells #[.slice none 0 0] 45)) (.slice none 0 0) [] := ⟨EmAt.new w, (Below.refl _ _).alloc (Nat.le_refl _) _⟩
theorem BoxW.emitted {w W W' : World} {v : Value} {c d : List In} {e : Ending} (h : BoxW w W v c) (k : Emitted W w.heap.size d e W') : e = .returned (.tuple #[]) ∧ ∃ v', BoxW w W' v' d := by
  obtain ⟨h1, v', h2, h3⟩ := k
  exact ⟨h1, v', h2, h.below.trans (h3.below h.below.size fun i hi e => by omega)⟩
theorem BoxW.on {w W W' : World} {v : Value} {c : List In} (h : BoxW w W v c) (k : Below W.heap.size W W') : BoxW w W' v c := ⟨h.at_.below k, h.below.trans (k.mono h.below.size)⟩
theorem BoxW.emit {w W : World} {v x : Value} {c l : List In} {base : Nat} (h : BoxW w W v c) (hx : RdC w base x l) (hlen : c.length + l.length ≤ 1048576) :
    Calls Try.prog 13 #[.pointer (some ⟨w.heap.size, 0, none⟩), x] W fun e W' => e = .returned (.tuple #[]) ∧ ∃ v', BoxW w W' v' (c ++ l) :=
  (emit_any h.at_ (hx.below h.below) hlen).mono fun _ _ k => h.emitted k
theorem BoxW.one {w W : World} {v : Value} {c : List In} (h : BoxW w W v c) (x : In) (N : Nat) (hN : N = W.heap.size) (hlen : c.length + 1 ≤ 1048576) :
    Calls Try.prog 13 #[.pointer (some ⟨w.heap.size, 0, none⟩), .slice (some ⟨N, 0, none⟩) 1 1] (W.alloc (.cells #[.int .i64 x.op, .int .i64 x.x, .int .i64 x.y, .string ⟨x.p.toArray⟩] 36)) fun e W' => e = .returned (.tuple #[]) ∧ ∃ v', BoxW w W' v' (c ++ [x]) :=
  (emit_one h.at_ x N hN hlen).mono fun _ _ k => h.emitted k
theorem BoxW.c0 {w W : World} {v : Value} {c : List In} (h : BoxW w W v c) : W.cell? ⟨w.heap.size, 0, none⟩ = some v := (h.at_.row.cell 0).trans rfl
/-- What a function that makes instructions leaves. -/
def GaveC (w : World) (c : List In) (e : Ending) (w' : World) : Prop := ∃ v, e = .returned v ∧ OwnC w.heap.size w' v c ∧ Below w.heap.size w w'
theorem BoxW.gave {w W : World} {v : Value} {c : List In} (h : BoxW w W v c) : GaveC w c (.returned v) W := ⟨v, rfl, h.at_.own.base (Nat.le_succ _), h.below⟩
end Rx

set_option maxHeartbeats 2000000 in
theorem saved_any {w : World} {x : Value} {l : List Rx.In} {base : Nat} (k : Nat) (hk : k ≤ 1048576) (hx : Rx.RdC w base x l) (hlen : l.length + 2 ≤ 1048576) :
    Calls Try.prog 14 #[.int .i64 k, x] w (Rx.GaveC w (Rx.saved k l)) := by
  obtain ⟨K2, HK2⟩ : ∃ K2 : Nat, Hid (2 * k = K2) := ⟨_, Lib.hid rfl⟩
  obtain ⟨K3, HK3⟩ : ∃ K3 : Nat, Hid (K2 + 1 = K3) := ⟨_, Lib.hid rfl⟩
  have HE : Hid ((([] ++ [(⟨4, K2, 0, []⟩ : Rx.In)]) ++ l) ++ [⟨4, K3, 0, []⟩] = Rx.saved k l) := Lib.hid (by rw [← HK3.out, ← HK2.out]; simp [Rx.saved])
  generalize Rx.saved k l = R at *
  have hw2 : IntKind.i64.wrap (2 * (k : Int)) = (K2 : Int) := by have := HK2.out; rw [IntKind.wrap_i64]; omega
  have hw3 : IntKind.i64.wrap ((K2 : Int) + 1) = (K3 : Int) := by have := HK2.out; have := HK3.out; rw [IntKind.wrap_i64]; omega
  have HS := Lib.hid (Rx.BoxW.start w)
  have HX := Lib.hid hx
  have HL := Lib.hid hlen
  obtain ⟨A, cx, rfl, hr⟩ := hx
  clear hr
  go_enter Try.func14, Try.ntmps14
  go_wp2_with first
    | (go_at_call 13; ((with_reducible refine (HS.out.one ⟨4, K2, 0, []⟩ _ ?_ ?_).mono ?_); (focus (simp; done)); (focus (simp; done)); rintro e w1 ⟨rfl, v1, hs1⟩; have HS1 := Lib.hid hs1; clear hs1))
    | (go_at_call 13; ((with_reducible refine (HS1.out.emit HX.out ?_).mono ?_); (focus (have := HL.out; simp; omega)); rintro e w2 ⟨rfl, v2, hs2⟩; have HS2 := Lib.hid hs2; clear hs2))
    | (go_at_call 13; ((with_reducible refine (HS2.out.one ⟨4, K3, 0, []⟩ _ ?_ ?_).mono ?_); (focus (simp; done)); (focus (have := HL.out; simp; omega)); rintro e w3 ⟨rfl, v3, hs3⟩; have HS3 := Lib.hid hs3; have c3 := hs3.c0; obtain ⟨A3, n3, cc3, rfl⟩ := own_slice hs3.at_.own; clear hs3))
  go_ret
  exact HE.out ▸ HS3.out.gave

set_option maxHeartbeats 2000000 in
theorem split_any (a b : Int) (lazy : Bool) (w : World) :
    Calls Try.prog 42 #[.int .i64 a, .int .i64 b, .bool lazy] w fun e w' => e = .returned (.agg #[.int .i64 2, .int .i64 (Rx.splitI a b lazy).x, .int .i64 (Rx.splitI a b lazy).y, .string ⟨#[]⟩]) ∧ Below w.heap.size w w' := by
  cases lazy
  · go_enter Try.func42, Try.ntmps42
    go_wp2_with fail
    exact bodyPost_ret (v := .agg #[.int .i64 2, .int .i64 a, .int .i64 b, .string ⟨#[]⟩]) (by simp [results, Try.results42, go_sem, *]) rfl ⟨rfl, (by repeat (first | exact Below.refl _ _ | assumption | refine Below.setCell ?_ (by first | (simp; done) | omega | (simp; omega) | (simp at *; omega)) _ | refine Below.alloc ?_ (by first | (simp; done) | omega | (simp; omega) | (simp at *; omega)) _ | refine Below.drew ?_ | (refine Below.trans ?_ (Below.mono (by assumption) (by first | (simp; done) | omega | (simp; omega) | (simp at *; omega)))) | (refine Below.trans ?_ (Below.mono (below_regrown _ _ _) (by first | (simp; done) | omega | (simp; omega) | (simp at *; omega))))))⟩
  · go_enter Try.func42, Try.ntmps42
    go_wp2_with fail
    exact bodyPost_ret (v := .agg #[.int .i64 2, .int .i64 b, .int .i64 a, .string ⟨#[]⟩]) (by simp [results, Try.results42, go_sem, *]) rfl ⟨rfl, (by repeat (first | exact Below.refl _ _ | assumption | refine Below.setCell ?_ (by first | (simp; done) | omega | (simp; omega) | (simp at *; omega)) _ | refine Below.alloc ?_ (by first | (simp; done) | omega | (simp; omega) | (simp at *; omega)) _ | refine Below.drew ?_ | (refine Below.trans ?_ (Below.mono (by assumption) (by first | (simp; done) | omega | (simp; omega) | (simp at *; omega)))) | (refine Below.trans ?_ (Below.mono (below_regrown _ _ _) (by first | (simp; done) | omega | (simp; omega) | (simp at *; omega))))))⟩

namespace Rx
theorem splitI_eta (a b : Int) (z : Bool) : (⟨2, (splitI a b z).x, (splitI a b z).y, []⟩ : In) = splitI a b z := by cases z <;> rfl
end Rx

set_option maxHeartbeats 4000000 in
theorem repeated_any {w : World} {x : Value} {l : List Rx.In} {base : Nat} (c : UInt8) (hc : Rx.signB c = true) (lazy : Bool) (hx : Rx.RdC w base x l) (hlen : l.length + 2 ≤ 1048576) :
    Calls Try.prog 34 #[x, .int .u8 (c.toNat : Int), .bool lazy] w (Rx.GaveC w (Rx.repeated l c lazy)) := by
  have HS0 := Lib.hid (Rx.BoxW.start w)
  have HX := Lib.hid hx
  have HL := Lib.hid hlen
  obtain ⟨A, cx, rfl, hr⟩ := hx
  clear hr
  have h' : c = 42 ∨ c = 43 ∨ c = 63 := by simpa [Rx.signB, or_assoc] using hc
  clear hc
  rcases h' with rfl | rfl | rfl
  · show Calls Try.prog 34 #[.slice A l.length cx, .int .u8 42, .bool lazy] w (Rx.GaveC w (Rx.repeated l 42 lazy))
    obtain ⟨N, HN⟩ : ∃ N : Nat, Hid (l.length + 2 = N) := ⟨_, Lib.hid rfl⟩
    obtain ⟨M, HM⟩ : ∃ M : Int, Hid (-(l.length : Int) = M) := ⟨_, Lib.hid rfl⟩
    obtain ⟨M1, HM1⟩ : ∃ M1 : Int, Hid (M - 1 = M1) := ⟨_, Lib.hid rfl⟩
    have hN : IntKind.i64.wrap ((l.length : Int) + 2) = (N : Int) := by have := HN.out; rw [IntKind.wrap_i64]; omega
    have hM : IntKind.i64.wrap (-(l.length : Int)) = M := by have := HM.out; rw [IntKind.wrap_i64]; omega
    have hM1 : IntKind.i64.wrap (M - 1) = M1 := by have := HM.out; have := HM1.out; rw [IntKind.wrap_i64]; omega
    have HSp := Lib.hid fun W => split_any 1 (N : Int) lazy W
    have HE : Hid ((([] ++ [(⟨2, (Rx.splitI 1 (N : Int) lazy).x, (Rx.splitI 1 (N : Int) lazy).y, []⟩ : Rx.In)]) ++ l) ++ [⟨3, M1, 0, []⟩] = Rx.repeated l 42 lazy) := Lib.hid (by
      rw [Rx.splitI_eta, ← HM1.out, ← HM.out, ← HN.out]
      show _ = Rx.splitI 1 ((l.length + 2 : Nat) : Int) lazy :: (l ++ [⟨3, -((l.length + 1 : Nat) : Int), 0, []⟩])
      rw [show (-((l.length + 1 : Nat) : Int)) = -(l.length : Int) - 1 by omega]
      simp)
    generalize (Rx.splitI 1 (N : Int) lazy).x = sx at *
    generalize (Rx.splitI 1 (N : Int) lazy).y = sy at *
    generalize Rx.repeated l 42 lazy = R at *
    go_enter Try.func34, Try.ntmps34
    go_wp2_with first
      | (go_at_call 42; go_must (refine (HSp.out _).mono ?_; rintro e w1 ⟨rfl, hb⟩; have HS1 := Lib.hid (HS0.out.on hb); clear hb))
      | (go_at_call 13; ((with_reducible refine (HS1.out.one ⟨2, sx, sy, []⟩ _ ?_ ?_).mono ?_); (focus (simp; done)); (focus (have := HL.out; simp <;> omega)); rintro e w2 ⟨rfl, v2, hs2⟩; have HS2 := Lib.hid hs2; clear hs2))
      | (go_at_call 13; ((with_reducible refine (HS2.out.emit HX.out ?_).mono ?_); (focus (have := HL.out; simp <;> omega)); rintro e w3 ⟨rfl, v3, hs3⟩; have HS3 := Lib.hid hs3; clear hs3))
      | (go_at_call 13; ((with_reducible refine (HS3.out.one ⟨3, M1, 0, []⟩ _ ?_ ?_).mono ?_); (focus (simp; done)); (focus (have := HL.out; simp <;> omega)); rintro e w4 ⟨rfl, v4, hs4⟩; have HS4 := Lib.hid hs4; have c4 := hs4.c0; obtain ⟨A4, n4, cc4, rfl⟩ := own_slice hs4.at_.own; clear hs4))
    go_ret
    exact HE.out ▸ HS4.out.gave
  · show Calls Try.prog 34 #[.slice A l.length cx, .int .u8 43, .bool lazy] w (Rx.GaveC w (Rx.repeated l 43 lazy))
    obtain ⟨M, HM⟩ : ∃ M : Int, Hid (-(l.length : Int) = M) := ⟨_, Lib.hid rfl⟩
    have hM : IntKind.i64.wrap (-(l.length : Int)) = M := by have := HM.out; rw [IntKind.wrap_i64]; omega
    have HSp := Lib.hid fun W => split_any M 1 lazy W
    have HE : Hid (([] ++ l) ++ [(⟨2, (Rx.splitI M 1 lazy).x, (Rx.splitI M 1 lazy).y, []⟩ : Rx.In)] = Rx.repeated l 43 lazy) := Lib.hid (by
      rw [Rx.splitI_eta, ← HM.out]
      rfl)
    generalize (Rx.splitI M 1 lazy).x = sx at *
    generalize (Rx.splitI M 1 lazy).y = sy at *
    generalize Rx.repeated l 43 lazy = R at *
    go_enter Try.func34, Try.ntmps34
    go_wp2_with first
      | (go_at_call 13; ((with_reducible refine (HS0.out.emit HX.out ?_).mono ?_); (focus (have := HL.out; simp <;> omega)); rintro e w1 ⟨rfl, v1, hs1⟩; have HS1 := Lib.hid hs1; clear hs1))
      | (go_at_call 42; go_must (refine (HSp.out _).mono ?_; rintro e w2 ⟨rfl, hb⟩; have HS2 := Lib.hid (HS1.out.on hb); clear hb))
      | (go_at_call 13; ((with_reducible refine (HS2.out.one ⟨2, sx, sy, []⟩ _ ?_ ?_).mono ?_); (focus (simp; done)); (focus (have := HL.out; simp <;> omega)); rintro e w3 ⟨rfl, v3, hs3⟩; have HS3 := Lib.hid hs3; have c3 := hs3.c0; obtain ⟨A3, n3, cc3, rfl⟩ := own_slice hs3.at_.own; clear hs3))
    go_ret
    exact HE.out ▸ HS3.out.gave
  · show Calls Try.prog 34 #[.slice A l.length cx, .int .u8 63, .bool lazy] w (Rx.GaveC w (Rx.repeated l 63 lazy))
    obtain ⟨N, HN⟩ : ∃ N : Nat, Hid (l.length + 1 = N) := ⟨_, Lib.hid rfl⟩
    have hN : IntKind.i64.wrap ((l.length : Int) + 1) = (N : Int) := by have := HN.out; rw [IntKind.wrap_i64]; omega
    have HSp := Lib.hid fun W => split_any 1 (N : Int) lazy W
    have HE : Hid (([] ++ [(⟨2, (Rx.splitI 1 (N : Int) lazy).x, (Rx.splitI 1 (N : Int) lazy).y, []⟩ : Rx.In)]) ++ l = Rx.repeated l 63 lazy) := Lib.hid (by
      rw [Rx.splitI_eta, ← HN.out]
      rfl)
    generalize (Rx.splitI 1 (N : Int) lazy).x = sx at *
    generalize (Rx.splitI 1 (N : Int) lazy).y = sy at *
    generalize Rx.repeated l 63 lazy = R at *
    go_enter Try.func34, Try.ntmps34
    go_wp2_with first
      | (go_at_call 42; go_must (refine (HSp.out _).mono ?_; rintro e w1 ⟨rfl, hb⟩; have HS1 := Lib.hid (HS0.out.on hb); clear hb))
      | (go_at_call 13; ((with_reducible refine (HS1.out.one ⟨2, sx, sy, []⟩ _ ?_ ?_).mono ?_); (focus (simp; done)); (focus (have := HL.out; simp <;> omega)); rintro e w2 ⟨rfl, v2, hs2⟩; have HS2 := Lib.hid hs2; clear hs2))
      | (go_at_call 13; ((with_reducible refine (HS2.out.emit HX.out ?_).mono ?_); (focus (have := HL.out; simp <;> omega)); rintro e w3 ⟨rfl, v3, hs3⟩; have HS3 := Lib.hid hs3; have c3 := hs3.c0; obtain ⟨A3, n3, cc3, rfl⟩ := own_slice hs3.at_.own; clear hs3))
    go_ret
    exact HE.out ▸ HS3.out.gave
end Go.Proofs.Ytajijcnfhijanaa
