/- WqCv VpPure -/
import Derived.Test.YtljlanhpjpjgaaaGreatDoorJ1
import Derived.Test.YtljlanhpjpjgaaaGreatDoorJ28
import Derived.Test.YtljlanhpjpjgaaaGreatDoorJ4
namespace Go.Proofs.YtljlanhpjpjgaaaGreatDoor
set_option maxRecDepth 100000
set_option maxHeartbeats 8000000
section
open Go.RowKit Go.Sort
open Fx (Vl)
open Me
open Wp
theorem index_cover (l : List (Int × Int)) (A : Option Addr) (cap : Nat) (p1 p2 : Nat) (pr : Nat → Bool) (w : World) (hr : Row w A l cap) (h0 : 0 < l.length) (h8 : l.length ≤ 8)
 (hc : ∀ W i, i < l.length → Below w.heap.size w W → Calls Tryz.prog 102 #[.agg #[.int .i64 (Wh.At l i).1, .int .i64 (Wh.At l i).2], .pointer (some ⟨p1, 0, none⟩), .pointer (some ⟨p2, 0, none⟩)] W fun e w' => e = .returned (.bool (pr i)) ∧ Below W.heap.size W w') :
 Calls Tryz.prog 101 #[.slice A l.length cap, .func (.func 102) #[] #[.pointer (some ⟨p1, 0, none⟩), .pointer (some ⟨p2, 0, none⟩)]] w fun e w' => e = .returned (.int .i64 (seek pr l.length 0)) ∧ Below w.heap.size w w' := by
 have HR := Lib.hid hr
 have HC := Lib.hid hc
 have hlen : l.length ≤ cap := hr.1
 clear hr hc
 obtain ⟨N, hN⟩ : ∃ N, Hid (N = l.length) := ⟨_, Lib.hid rfl⟩
 have hN8 : N ≤ 8 := by rw [hN.out]; exact h8
 rw [← hN.out] at hlen ⊢
 obtain ⟨b, off, rfl, ha⟩ := HR.out.2 (by omega)
 have hbl := ha.lt
 have HA : Hid (∀ W i, i < N → Below w.heap.size w W → W.cell? ⟨b, off + i * 2, none⟩ = some (.int .i64 (Wh.At l i).1) ∧ W.cell? ⟨b, off + i * 2 + 1, none⟩ = some (.int .i64 (Wh.At l i).2) ∧ b < W.heap.size) := Lib.hid fun W i hi hb =>
  ⟨(hb.cell (p := ⟨b, off + i * 2, none⟩) hbl).trans (ha.st i (by rw [← hN.out]; exact hi)), (hb.cell (p := ⟨b, off + i * 2 + 1, none⟩) hbl).trans (ha.ct i (by rw [← hN.out]; exact hi)), Nat.lt_of_lt_of_le hbl hb.size⟩
 clear ha
 go_enter Tryz.func101, Tryz.ntmps101
 go_wp2_with fail
 go_loopw [5, 8] (fun _ u wr => ∃ i : Nat, i ≤ N ∧ u = .int .i64 i ∧ Hid (seek pr N 0 = seek pr (N - i) i) ∧ Below w.heap.size w wr) (fun _ u _ => N - (intOf u).toNat)
 case atStart => exact ⟨0, Nat.zero_le _, rfl, Lib.hid rfl, Below.refl _ _⟩
 case round =>
  obtain ⟨i, hi, rfl, HS, hbel⟩ := hrel
  have HB := Lib.hid hbel
  clear hbel
  by_cases hlt : i < N
  ·have hiI : (i : Int) < (N : Int) := by omega
   have hi0 : (0 : Int) ≤ (i : Int) := by omega
   obtain ⟨s0, s1, hbw⟩ := HA.out wr i hlt HB.out
   have HCi := Lib.hid (HC.out wr i (by rw [← hN.out]; exact hlt) HB.out)
   obtain ⟨m, hm⟩ : ∃ m, N - i = m + 1 := ⟨N - i - 1, by omega⟩
   rw [hm] at HS
   have HM := Lib.hid hm
   clear hm
   generalize Wh.At l i = x at *
   obtain ⟨x1, x2⟩ := x
   cases hq : pr i with
   | true =>
     rw [hq] at HCi
     have HQ : Hid (seek pr N 0 = (i : Int)) := Lib.hid (by rw [HS.out, seek_yes hq])
     clear hq
     go_wp2_with (go_at_call 102; (with_reducible refine (HCi.out).mono ?_); rintro e w2 ⟨rfl, hb2⟩; have HB2 : Hid (Below w.heap.size w w2) := Lib.hid (below_via hb2 HB.out); clear hb2)
     go_ret
     exact ⟨by rw [HQ.out]; rfl, HB2.out⟩
   | false =>
     rw [hq] at HCi
     have HQ : Hid (seek pr N 0 = seek pr (N - (i + 1)) (i + 1)) := Lib.hid (by rw [HS.out, seek_no hq]; congr 1; have := HM.out; omega)
     clear hq
     go_wp2_with (go_at_call 102; (with_reducible refine (HCi.out).mono ?_); rintro e w2 ⟨rfl, hb2⟩; have HB2 : Hid (Below w.heap.size w w2) := Lib.hid (below_via hb2 HB.out); clear hb2)
     go_roundw
     case rel => exact ⟨i + 1, by omega, by go_num, HQ, HB2.out⟩
     case measure => simp [intOf]; omega
  ·have hiN : i = N := by omega
   have hiI : ¬ (i : Int) < (N : Int) := by omega
   have HQ : Hid (seek pr N 0 = -1) := Lib.hid (by rw [HS.out, hiN, Nat.sub_self]; rfl)
   go_wp2_with fail
   go_ret
   exact ⟨by rw [HQ.out]; rfl, HB.out⟩
theorem index_reach (l : List (Int × Int)) (A : Option Addr) (cap : Nat) (p1 : Nat) (pr : Nat → Bool) (w : World) (hr : Row w A l cap) (h0 : 0 < l.length) (h8 : l.length ≤ 8)
 (hc : ∀ W i, i < l.length → Below w.heap.size w W → Calls Tryz.prog 110 #[.agg #[.int .i64 (Wh.At l i).1, .int .i64 (Wh.At l i).2], .pointer (some ⟨p1, 0, none⟩)] W fun e w' => e = .returned (.bool (pr i)) ∧ Below W.heap.size W w') :
 Calls Tryz.prog 101 #[.slice A l.length cap, .func (.func 110) #[] #[.pointer (some ⟨p1, 0, none⟩)]] w fun e w' => e = .returned (.int .i64 (seek pr l.length 0)) ∧ Below w.heap.size w w' := by
 have HR := Lib.hid hr
 have HC := Lib.hid hc
 have hlen : l.length ≤ cap := hr.1
 clear hr hc
 obtain ⟨N, hN⟩ : ∃ N, Hid (N = l.length) := ⟨_, Lib.hid rfl⟩
 have hN8 : N ≤ 8 := by rw [hN.out]; exact h8
 rw [← hN.out] at hlen ⊢
 obtain ⟨b, off, rfl, ha⟩ := HR.out.2 (by omega)
 have hbl := ha.lt
 have HA : Hid (∀ W i, i < N → Below w.heap.size w W → W.cell? ⟨b, off + i * 2, none⟩ = some (.int .i64 (Wh.At l i).1) ∧ W.cell? ⟨b, off + i * 2 + 1, none⟩ = some (.int .i64 (Wh.At l i).2) ∧ b < W.heap.size) := Lib.hid fun W i hi hb =>
  ⟨(hb.cell (p := ⟨b, off + i * 2, none⟩) hbl).trans (ha.st i (by rw [← hN.out]; exact hi)), (hb.cell (p := ⟨b, off + i * 2 + 1, none⟩) hbl).trans (ha.ct i (by rw [← hN.out]; exact hi)), Nat.lt_of_lt_of_le hbl hb.size⟩
 clear ha
 go_enter Tryz.func101, Tryz.ntmps101
 go_wp2_with fail
 go_loopw [5, 8] (fun _ u wr => ∃ i : Nat, i ≤ N ∧ u = .int .i64 i ∧ Hid (seek pr N 0 = seek pr (N - i) i) ∧ Below w.heap.size w wr) (fun _ u _ => N - (intOf u).toNat)
 case atStart => exact ⟨0, Nat.zero_le _, rfl, Lib.hid rfl, Below.refl _ _⟩
 case round =>
  obtain ⟨i, hi, rfl, HS, hbel⟩ := hrel
  have HB := Lib.hid hbel
  clear hbel
  by_cases hlt : i < N
  ·have hiI : (i : Int) < (N : Int) := by omega
   have hi0 : (0 : Int) ≤ (i : Int) := by omega
   obtain ⟨s0, s1, hbw⟩ := HA.out wr i hlt HB.out
   have HCi := Lib.hid (HC.out wr i (by rw [← hN.out]; exact hlt) HB.out)
   obtain ⟨m, hm⟩ : ∃ m, N - i = m + 1 := ⟨N - i - 1, by omega⟩
   rw [hm] at HS
   have HM := Lib.hid hm
   clear hm
   generalize Wh.At l i = x at *
   obtain ⟨x1, x2⟩ := x
   cases hq : pr i with
   | true =>
     rw [hq] at HCi
     have HQ : Hid (seek pr N 0 = (i : Int)) := Lib.hid (by rw [HS.out, seek_yes hq])
     clear hq
     go_wp2_with (go_at_call 110; (with_reducible refine (HCi.out).mono ?_); rintro e w2 ⟨rfl, hb2⟩; have HB2 : Hid (Below w.heap.size w w2) := Lib.hid (below_via hb2 HB.out); clear hb2)
     go_ret
     exact ⟨by rw [HQ.out]; rfl, HB2.out⟩
   | false =>
     rw [hq] at HCi
     have HQ : Hid (seek pr N 0 = seek pr (N - (i + 1)) (i + 1)) := Lib.hid (by rw [HS.out, seek_no hq]; congr 1; have := HM.out; omega)
     clear hq
     go_wp2_with (go_at_call 110; (with_reducible refine (HCi.out).mono ?_); rintro e w2 ⟨rfl, hb2⟩; have HB2 : Hid (Below w.heap.size w w2) := Lib.hid (below_via hb2 HB.out); clear hb2)
     go_roundw
     case rel => exact ⟨i + 1, by omega, by go_num, HQ, HB2.out⟩
     case measure => simp [intOf]; omega
  ·have hiN : i = N := by omega
   have hiI : ¬ (i : Int) < (N : Int) := by omega
   have HQ : Hid (seek pr N 0 = -1) := Lib.hid (by rw [HS.out, hiN, Nat.sub_self]; rfl)
   go_wp2_with fail
   go_ret
   exact ⟨by rw [HQ.out]; rfl, HB.out⟩
namespace Wp
def fileV (h : Hd) (A : Option Addr) (cap fs : Nat) (n : List UInt8) : Value := .agg #[.int .i64 h.ag, .int .i64 h.xf, .slice A h.l.length cap, .pointer (some ⟨fs, 0, none⟩), .string ⟨n.toArray⟩]
theorem span_num {h : Hd} (hv : h.val = true) {i : Nat} (hi : i < h.l.length) : 0 ≤ h.step i * h.cnt i ∧ IntKind.i64.wrap (h.step i * h.cnt i) = h.step i * h.cnt i := by
 obtain ⟨⟨n1, n2⟩, n3, n4⟩ := Hd.nums hv i hi
 have h1 : 0 ≤ h.step i * h.cnt i := Int.mul_nonneg (by omega) (by omega)
 have h2 := Int.mul_le_mul n2 n4 (by omega) (by omega)
 exact ⟨h1, IntWalk.i64_in _ (by omega)⟩
end Wp
theorem covering_any {w : World} {fs : Nat} {n : List UInt8} {h : Hd} {A : Option Addr} {cap : Nat} (hr : Row w A h.l cap) (hv : h.val = true) (now t d : Int) (h1 : 1 ≤ t) (h2 : now ≤ 4294967295) (hd : now - t = d) :
 Calls Tryz.prog 73 #[fileV h A cap fs n, .int .i64 now, .int .i64 t] w fun e w' => e = .returned (.int .i64 (if t ≤ now then find h d else -1)) ∧ Below w.heap.size w w' := by
 have HIX : Hid (∀ (W : World) (p1 p2 : Nat), Below w.heap.size w W → W.cell? ⟨p1, 0, none⟩ = some (.int .i64 t) → p1 < W.heap.size → W.cell? ⟨p2, 0, none⟩ = some (.int .i64 now) → p2 < W.heap.size → Calls Tryz.prog 101 #[.slice A h.l.length cap, .func (.func 102) #[] #[.pointer (some ⟨p1, 0, none⟩), .pointer (some ⟨p2, 0, none⟩)]] W fun e w' => e = .returned (.int .i64 (seek (fun i => decide (t ≤ now) && decide (d < h.step i * h.cnt i)) h.l.length 0)) ∧ Below W.heap.size W w') := Lib.hid fun W p1 p2 hb c1 l1 c2 l2 =>
  index_cover h.l A cap p1 p2 _ W (hr.below hb) (by have := Hd.len hv; omega) (by have := Hd.len hv; omega) fun X i hi hbx => cover_fn t now _ _ _ rfl (span_num hv hi).2 d hd (fun hle => IntWalk.i64_in _ (by omega)) p1 p2 X ((hbx.cell (p := ⟨p1, 0, none⟩) l1).trans c1) (Nat.lt_of_lt_of_le l1 hbx.size) ((hbx.cell (p := ⟨p2, 0, none⟩) l2).trans c2) (Nat.lt_of_lt_of_le l2 hbx.size)
 obtain ⟨q, hq⟩ : ∃ q, q = seek (fun i => decide (t ≤ now) && decide (d < h.step i * h.cnt i)) h.l.length 0 := ⟨_, rfl⟩
 rw [← hq] at HIX
 have HQ : Hid (q = if t ≤ now then find h d else -1) := Lib.hid (by
  rw [hq]
  by_cases hle : t ≤ now
  ·rw [if_pos hle, decide_eq_true hle]
   simp only [Bool.true_and]
   exact seek_first _ _
  ·rw [if_neg hle, decide_eq_false hle]
   exact seek_none _ _ fun _ => by simp)
 clear hq hr
 rw [← HQ.out]
 unfold fileV
 generalize h.l.length = N at *
 generalize h.ag = ag at *
 generalize h.xf = xf at *
 go_enter Tryz.func73, Tryz.ntmps73
 go_wp2_with (go_at_call 101; (with_reducible refine (HIX.out _ _ _ Bq (by simp [go_sem]) (by simp) (by simp [go_sem]) (by simp)).mono ?_); rintro e w2 ⟨rfl, hb2⟩)
 go_ret
 exact ⟨rfl, Bq⟩
theorem reaching_any {w : World} {fs : Nat} {n : List UInt8} {h : Hd} {A : Option Addr} {cap : Nat} (hr : Row w A h.l cap) (hv : h.val = true) (sec : Int) :
 Calls Tryz.prog 86 #[fileV h A cap fs n, .int .i64 sec] w fun e w' => e = .returned (.int .i64 (find h (sec - 1))) ∧ Below w.heap.size w w' := by
 have HIX : Hid (∀ (W : World) (p1 : Nat), Below w.heap.size w W → W.cell? ⟨p1, 0, none⟩ = some (.int .i64 sec) → p1 < W.heap.size → Calls Tryz.prog 101 #[.slice A h.l.length cap, .func (.func 110) #[] #[.pointer (some ⟨p1, 0, none⟩)]] W fun e w' => e = .returned (.int .i64 (seek (fun i => decide (sec ≤ h.step i * h.cnt i)) h.l.length 0)) ∧ Below W.heap.size W w') := Lib.hid fun W p1 hb c1 l1 =>
  index_reach h.l A cap p1 _ W (hr.below hb) (by have := Hd.len hv; omega) (by have := Hd.len hv; omega) fun X i hi hbx => reach_fn sec _ _ _ rfl (span_num hv hi).2 p1 X ((hbx.cell (p := ⟨p1, 0, none⟩) l1).trans c1) (Nat.lt_of_lt_of_le l1 hbx.size)
 obtain ⟨q, hq⟩ : ∃ q, q = seek (fun i => decide (sec ≤ h.step i * h.cnt i)) h.l.length 0 := ⟨_, rfl⟩
 rw [← hq] at HIX
 have HQ : Hid (q = find h (sec - 1)) := Lib.hid (by
  rw [hq]
  have e : (fun i => decide (sec ≤ h.step i * h.cnt i)) = fun i => decide (sec - 1 < h.step i * h.cnt i) := funext fun i => by
   rw [Bool.eq_iff_iff]; simp only [decide_eq_true_eq]; omega
  rw [e]
  exact seek_first _ _)
 clear hq hr
 rw [← HQ.out]
 unfold fileV
 generalize h.l.length = N at *
 generalize h.ag = ag at *
 generalize h.xf = xf at *
 go_enter Tryz.func86, Tryz.ntmps86
 go_wp2_with (go_at_call 101; (with_reducible refine (HIX.out _ _ Bq (by simp [go_sem]) (by simp)).mono ?_); rintro e w2 ⟨rfl, hb2⟩)
 go_ret
 exact ⟨rfl, Bq⟩
end
section
namespace Vp
open Vf
def look : List Fl → List UInt8 → Option (List UInt8)
 | [], _ => none
 | f :: r, n => if f.name = n then some f.b else look r n
def Uniq (l : List Fl) : Prop := l.Pairwise (fun f g => f.name ≠ g.name)
theorem ixFrom_look (n : List UInt8) : ∀ (l : List Fl) (k : Nat), (look l n = none ∧ ixFrom n k l = -1) ∨ ∃ j, ∃ h : j < l.length, ixFrom n k l = ((k + j : Nat) : Int) ∧ look l n = some l[j].b ∧ l[j].name = n
 | [], _ => .inl ⟨rfl, rfl⟩
 | f :: r, k => by
   by_cases e : f.name = n
   ·refine .inr ⟨0, by simp, ?_, ?_, e⟩
    ·rw [ixFrom, if_pos (by simpa using e)]; simp
    ·rw [look, if_pos e]; rfl
   ·have e1 : ixFrom n k (f :: r) = ixFrom n (k + 1) r := by rw [ixFrom, if_neg (by simpa using e)]
    have e2 : look (f :: r) n = look r n := by rw [look, if_neg e]
    rw [e1, e2]
    rcases ixFrom_look n r (k + 1) with h | ⟨j, hj, h1, h2, h3⟩
    ·exact .inl h
    ·exact .inr ⟨j + 1, by simpa using hj, by rw [h1]; congr 1; omega, by simpa using h2, by simpa using h3⟩
theorem ix_none {l : List Fl} {n : List UInt8} (h : look l n = none) : ix l n = -1 := by
 rcases ixFrom_look n l 0 with h1 | ⟨j, hj, h1, h2, h3⟩
 ·exact h1.2
 ·rw [h] at h2; cases h2
theorem ix_some {l : List Fl} {n b : List UInt8} (h : look l n = some b) : ¬ ix l n < 0 ∧ bytesAt l n = b := by
 rcases ixFrom_look n l 0 with h1 | ⟨j, hj, h1, h2, h3⟩
 ·rw [h] at h1; cases h1.1
 ·have e : ix l n = (j : Int) := by rw [ix, h1]; congr 1; omega
  rw [h] at h2
  refine ⟨by omega, ?_⟩
  unfold bytesAt
  rw [e]
  simp [hj]
  exact (Option.some.inj h2).symm
theorem look_append (l m : List Fl) (n : List UInt8) : look (l ++ m) n = (look l n).or (look m n) := by
 induction l with
 | nil => simp [look]
 | cons f r ih =>
   rw [List.cons_append, look, look]
   split
   ·simp
   ·exact ih
def wr (n : List UInt8) (o : Nat) (b : List UInt8) (f : Fl) : Fl := if f.name = n then ⟨f.name, upd f.b o b⟩ else f
theorem wr_name (n : List UInt8) (o : Nat) (b : List UInt8) (f : Fl) : (wr n o b f).name = f.name := by unfold wr; split <;> rfl
theorem look_wr (n : List UInt8) (o : Nat) (b : List UInt8) (l : List Fl) (m : List UInt8) : look (l.map (wr n o b)) m = if m = n then (look l m).map (fun x => upd x o b) else look l m := by
 induction l with
 | nil => simp [look]
 | cons f r ih =>
   rw [List.map_cons, look, look, wr_name]
   by_cases e : f.name = m
   ·rw [if_pos e, if_pos e]
    by_cases e2 : m = n
    ·subst e; subst e2; simp [wr]
    ·rw [if_neg e2]; unfold wr; rw [if_neg (by rw [e]; exact e2)]
   ·rw [if_neg e, if_neg e, ih]
theorem look_none_mem {l : List Fl} {n : List UInt8} (h : look l n = none) : ∀ f ∈ l, f.name ≠ n := by
 induction l with
 | nil => intro f hf; cases hf
 | cons g r ih =>
   by_cases e : g.name = n
   ·rw [look, if_pos e] at h; cases h
   ·rw [look, if_neg e] at h
    intro f hf
    rcases List.mem_cons.1 hf with rfl | hf
    ·exact e
    ·exact ih h f hf
theorem goes_past (a : Ac) (i : Int) : ∀ (l : List Fl) (k : Nat), i < (k : Int) → goes a i k l = l
 | [], _, _ => rfl
 | x :: r, k, h => by
   rw [goes, goes_past a i r (k + 1) (by omega)]
   unfold one
   rw [if_neg (fun hh => by omega), if_neg (fun hh => by omega)]
   rfl
theorem goes_one (a : Ac) (h1 : a.kind ≠ 2) (h2 : a.kind ≠ 3) (i : Int) : ∀ (l : List Fl) (k : Nat), goes a i k l = l
 | [], _ => rfl
 | x :: r, k => by
   rw [goes, goes_one a h1 h2 i r (k + 1)]
   unfold one
   rw [if_neg (fun hh => h1 hh.2), if_neg (fun hh => h2 hh.2)]
   rfl
theorem ixFrom_ge (n : List UInt8) (l : List Fl) (k : Nat) : ixFrom n k l = -1 ∨ (k : Int) ≤ ixFrom n k l := by
 rcases ixFrom_look n l k with h | ⟨j, _, h, _⟩
 ·exact .inl h.2
 ·exact .inr (by omega)
theorem goes_two (a : Ac) (h2 : a.kind = 2) : ∀ (l : List Fl) (k : Nat), Uniq l → goes a (ixFrom a.name k l) k l = l.map (wr a.name a.off a.p)
 | [], _, _ => rfl
 | x :: r, k, hu => by
   obtain ⟨hx, hr⟩ := List.pairwise_cons.1 hu
   by_cases e : x.name = a.name
   ·have e1 : ixFrom a.name k (x :: r) = (k : Int) := by rw [ixFrom, if_pos (by simpa using e)]
    rw [e1, goes, goes_past a _ r (k + 1) (by omega), List.map_cons]
    have er : r.map (wr a.name a.off a.p) = r := by
     conv => rhs; rw [← List.map_id r]
     apply List.map_congr_left
     intro f hf
     unfold wr
     rw [if_neg (fun h => hx f hf (by rw [e, h]))]
     rfl
    rw [er]
    unfold one wr
    rw [if_pos ⟨rfl, h2⟩, if_pos e]
    rfl
   ·have e1 : ixFrom a.name k (x :: r) = ixFrom a.name (k + 1) r := by rw [ixFrom, if_neg (by simpa using e)]
    have hg := ixFrom_ge a.name r (k + 1)
    rw [e1, goes, goes_two a h2 r (k + 1) hr, List.map_cons]
    unfold one
    rw [if_neg (fun hh => by omega), if_neg (fun hh => by omega)]
    unfold wr
    rw [if_neg e]
    rfl
theorem does_one (l : List Fl) (n : List UInt8) (o : Nat) (b : List UInt8) : does l ⟨1, n, o, b⟩ = l ++ [⟨n, b⟩] := by
 unfold does
 rw [goes_one _ (show (1 : Int) ≠ 2 by decide) (show (1 : Int) ≠ 3 by decide)]
 rfl
theorem does_two (l : List Fl) (hu : Uniq l) (n : List UInt8) (o : Nat) (b : List UInt8) : does l ⟨2, n, o, b⟩ = l.map (wr n o b) := by
 unfold does ix
 rw [goes_two ⟨2, n, o, b⟩ rfl l 0 hu]
 simp
theorem uniq_one {l : List Fl} (hu : Uniq l) {n b : List UInt8} (h : look l n = none) : Uniq (l ++ [⟨n, b⟩]) := by
 refine List.pairwise_append.2 ⟨hu, by simp, fun f hf g hg => ?_⟩
 rw [List.mem_singleton] at hg
 subst hg
 exact look_none_mem h f hf
theorem uniq_two {l : List Fl} (hu : Uniq l) (n : List UInt8) (o : Nat) (b : List UInt8) : Uniq (l.map (wr n o b)) := by
 refine List.pairwise_map.2 (hu.imp fun {f g} h => ?_)
 rw [wr_name, wr_name]
 exact h
theorem used_two (n : List UInt8) (o : Nat) (b : List UInt8) : ∀ (l : List Fl), Uniq l → (∀ x, look l n = some x → o + b.length ≤ x.length) → Vf.used (l.map (wr n o b)) = Vf.used l
 | [], _, _ => rfl
 | f :: r, hu, h => by
   obtain ⟨hx, hr⟩ := List.pairwise_cons.1 hu
   rw [List.map_cons, used_cons, used_cons]
   by_cases e : f.name = n
   ·have h1 := h f.b (by rw [look, if_pos e])
    have er : r.map (wr n o b) = r := by
     conv => rhs; rw [← List.map_id r]
     apply List.map_congr_left
     intro g hg
     unfold wr
     rw [if_neg (fun h => hx g hg (by rw [e, h]))]
     rfl
    rw [er]
    unfold wr
    rw [if_pos e]
    show (upd f.b o b).length + _ = _
    rw [upd_len h1]
   ·rw [used_two n o b r hr (fun x hx => h x (by rw [look, if_neg e]; exact hx))]
    unfold wr
    rw [if_neg e]
structure Op where
 kind : Int
 on : Nat
 at_ : Nat
 old : List UInt8
structure Co where
 map : List UInt8 → Option Nat
 sto : Nat → Fl
 used : Int
def setM (m : List UInt8 → Option Nat) (n : List UInt8) (v : Option Nat) : List UInt8 → Option Nat := fun x => if x = n then v else m x
def setS (s : Nat → Fl) (i : Nat) (f : Fl) : Nat → Fl := fun x => if x = i then f else s x
theorem setM_same (m : List UInt8 → Option Nat) (n : List UInt8) (v : Option Nat) : setM m n v n = v := by simp [setM]
theorem setM_back (m : List UInt8 → Option Nat) (n : List UInt8) (v u : Option Nat) (h : m n = u) : setM (setM m n v) n u = m := by
 funext x
 unfold setM
 by_cases e : x = n
 ·rw [if_pos e, e, h]
 ·rw [if_neg e, if_neg e]
theorem setS_same (s : Nat → Fl) (i : Nat) (f : Fl) : setS s i f i = f := by simp [setS]
theorem setS_twice (s : Nat → Fl) (i : Nat) (f g : Fl) : setS (setS s i f) i g = setS s i g := by
 funext x
 unfold setS
 by_cases e : x = i
 ·rw [if_pos e, if_pos e]
 ·rw [if_neg e, if_neg e, if_neg e]
def Co.put (c : Co) (id : Nat) : Co := ⟨setM c.map (c.sto id).name (some id), c.sto, c.used + (c.sto id).b.length⟩
def Co.drop (c : Co) (id : Nat) : Co := ⟨setM c.map (c.sto id).name none, c.sto, c.used - (c.sto id).b.length⟩
def Co.lay (c : Co) (id : Nat) (f : Fl) : Co := ⟨c.map, setS c.sto id f, c.used⟩
def Co.over (c : Co) (id : Nat) (o : Nat) (b : List UInt8) : Co := c.lay id ⟨(c.sto id).name, upd (c.sto id).b o b⟩
def stay (o : Op) (m : Int) : Nat := (min (max m 0) (o.old.length : Int)).toNat
def Co.undo (c : Co) (o : Op) (m : Int) : Co := if o.kind = 1 then c.drop o.on else if o.kind = 2 then c.over o.on (o.at_ + stay o m) (o.old.drop (stay o m)) else c.put o.on
structure View (c : Co) (l : List Fl) : Prop where
 look : ∀ n, (c.map n).map (fun id => (c.sto id).b) = look l n
 name : ∀ n id, c.map n = some id → (c.sto id).name = n
 used : c.used = (Vf.used l : Int)
 uniq : Uniq l
theorem View.agree {c : Co} {l : List Fl} (h : View c l) {I : Nat → Prop} (hI : ∀ n id, c.map n = some id → I id) {s : Nat → Fl} (hs : ∀ id, I id → s id = c.sto id) : View ⟨c.map, s, c.used⟩ l := by
 refine ⟨fun n => ?_, fun n id e => ?_, h.used, h.uniq⟩
 ·rw [← h.look n]
  show (c.map n).map (fun id => (s id).b) = _
  cases e : c.map n with
  | none => rfl
  | some id => simp [hs id (hI n id e)]
 ·show (s id).name = n
  rw [hs id (hI n id e)]
  exact h.name n id e
theorem View.none_ {c : Co} {l : List Fl} (h : View c l) {n : List UInt8} (e : c.map n = none) : Vp.look l n = none := by rw [← h.look n, e]; rfl
theorem View.some_ {c : Co} {l : List Fl} (h : View c l) {n : List UInt8} {id : Nat} (e : c.map n = some id) : Vp.look l n = some (c.sto id).b := by rw [← h.look n, e]; rfl
theorem View.make {c : Co} {l : List Fl} (h : View c l) {n b : List UInt8} {id : Nat} (hn : c.map n = none) (hid : ∀ m i, c.map m = some i → i ≠ id) : View ((c.lay id ⟨n, b⟩).put id) (does l ⟨1, n, 0, b⟩) := by
 have e0 : (c.lay id ⟨n, b⟩).sto id = ⟨n, b⟩ := setS_same _ _ _
 have hl := h.none_ hn
 rw [does_one]
 refine ⟨fun m => ?_, fun m i e => ?_, ?_, uniq_one h.uniq hl⟩
 ·rw [look_append]
  show (setM c.map ((c.lay id ⟨n, b⟩).sto id).name (some id) m).map (fun i => ((c.lay id ⟨n, b⟩).sto i).b) = _
  rw [e0]
  unfold setM
  by_cases e : m = n
  ·subst e
   simp [e0, hl, Vp.look]
  ·simp only [e, if_false]
   have e2 : Vp.look [⟨n, b⟩] m = none := by rw [Vp.look, if_neg (fun h => e h.symm)]; rfl
   rw [e2, Option.or_none, ← h.look m]
   cases e3 : c.map m with
   | none => rfl
   | some i =>
     have : (c.lay id ⟨n, b⟩).sto i = c.sto i := by show setS c.sto id ⟨n, b⟩ i = _; unfold setS; rw [if_neg (hid m i e3)]
     simp [this]
 ·have e : setM c.map ((c.lay id ⟨n, b⟩).sto id).name (some id) m = some i := e
  show ((c.lay id ⟨n, b⟩).sto i).name = m
  rw [e0] at e
  unfold setM at e
  by_cases e1 : m = n
  ·subst e1
   simp at e
   subst e
   rw [e0]
  ·simp only [e1, if_false] at e
   have : (c.lay id ⟨n, b⟩).sto i = c.sto i := by show setS c.sto id ⟨n, b⟩ i = _; unfold setS; rw [if_neg (hid m i e)]
   rw [this]
   exact h.name m i e
 ·rw [used_append]
  show c.used + (((c.lay id ⟨n, b⟩).sto id).b.length : Int) = _
  rw [e0, h.used]
  simp [Vf.used]
theorem View.inj {c : Co} {l : List Fl} (h : View c l) {m n : List UInt8} {id : Nat} (e : c.map m = some id) (e2 : c.map n = some id) : m = n := (h.name m id e).symm.trans (h.name n id e2)
theorem View.over {c : Co} {l : List Fl} (h : View c l) {n b : List UInt8} {o id : Nat} (hn : c.map n = some id) (hf : o + b.length ≤ (c.sto id).b.length) : View (c.over id o b) (does l ⟨2, n, o, b⟩) := by
 rw [does_two l h.uniq]
 have hs : ∀ i, i ≠ id → (c.over id o b).sto i = c.sto i := fun i hi => by show setS c.sto id _ i = _; unfold setS; rw [if_neg hi]
 have h0 : (c.over id o b).sto id = ⟨(c.sto id).name, upd (c.sto id).b o b⟩ := setS_same _ _ _
 refine ⟨fun m => ?_, fun m i e => ?_, ?_, uniq_two h.uniq _ _ _⟩
 ·rw [look_wr, ← h.look m]
  show (c.map m).map (fun i => ((c.over id o b).sto i).b) = _
  cases e : c.map m with
  | none => simp
  | some i =>
    by_cases e1 : m = n
    ·subst e1
     rw [hn] at e
     obtain rfl := Option.some.inj e
     simp [h0]
    ·have hi : i ≠ id := fun e2 => e1 (h.inj (e2 ▸ e) hn)
     simp [hs i hi, e1]
 ·have e : c.map m = some i := e
  by_cases hi : i = id
  ·subst hi
   rw [h0]
   exact h.name m i e
  ·rw [hs i hi]
   exact h.name m i e
 ·show c.used = _
  rw [h.used, used_two n o b l h.uniq (fun x hx => by rw [h.some_ hn] at hx; obtain rfl := Option.some.inj hx; exact hf)]
inductive Hist (was : List Fl) : Co → List Op → List Ac → Prop
 | nil {c : Co} : View c was → Hist was c [] []
 | snoc {c : Co} {j : List Op} {l : List Ac} {o : Op} {a : Ac} : View c (rep was (l.reverse ++ [a])) → Hist was (c.undo o 0) j l → o.kind = a.kind → (o.kind = 1 ∨ o.kind = 2 ∨ o.kind = 3) →
  (o.kind = 2 → o.at_ + o.old.length ≤ (c.sto o.on).b.length ∧ o.old.length = a.p.length) → (o.kind = 2 → ∀ m, View (c.undo o m) (does (rep was l.reverse) (cut a m))) → Hist was c (o :: j) (a :: l)
theorem Hist.view {was : List Fl} {c : Co} {j : List Op} {l : List Ac} (h : Hist was c j l) : View c (rep was l.reverse) := by
 cases h with
 | nil h => exact h
 | snoc h _ _ _ _ _ => rw [List.reverse_cons]; exact h
theorem Hist.len {was : List Fl} {c : Co} {j : List Op} {l : List Ac} (h : Hist was c j l) : j.length = l.length := by
 induction h with
 | nil _ => rfl
 | snoc _ _ _ _ _ _ ih => simp [ih]
def Live (I : Nat → Prop) (c : Co) (j : List Op) : Prop := (∀ n id, c.map n = some id → I id) ∧ ∀ o ∈ j, I o.on
theorem Live.undo {I : Nat → Prop} {c : Co} {o : Op} {j : List Op} (h : Live I c (o :: j)) (m : Int) : Live I (c.undo o m) j := by
 refine ⟨fun n id e => ?_, fun o' ho => h.2 o' (by simp [ho])⟩
 unfold Co.undo at e
 split at e
 ·have e : setM c.map (c.sto o.on).name none n = some id := e
  unfold setM at e
  split at e
  ·cases e
  ·exact h.1 n id e
 ·split at e
  ·exact h.1 n id e
  ·have e : setM c.map (c.sto o.on).name (some o.on) n = some id := e
   unfold setM at e
   split at e
   ·obtain rfl := Option.some.inj e
    exact h.2 o (by simp)
   ·exact h.1 n id e
theorem Co.undo_agree {I : Nat → Prop} {c : Co} {o : Op} {s : Nat → Fl} (ho : I o.on) (hs : ∀ id, I id → s id = c.sto id) (m : Int) :
 ∃ s', (Co.undo ⟨c.map, s, c.used⟩ o m) = ⟨(c.undo o m).map, s', (c.undo o m).used⟩ ∧ ∀ id, I id → s' id = (c.undo o m).sto id := by
 have e := hs o.on ho
 unfold Co.undo
 split
 ·exact ⟨s, by simp only [Co.drop, e], hs⟩
 ·split
  ·refine ⟨setS s o.on ⟨(s o.on).name, upd (s o.on).b (o.at_ + stay o m) (o.old.drop (stay o m))⟩, rfl, fun id hid => ?_⟩
   show setS s o.on _ id = setS c.sto o.on _ id
   unfold setS
   by_cases e2 : id = o.on
   ·rw [if_pos e2, if_pos e2, e]
   ·rw [if_neg e2, if_neg e2, hs id hid]
  ·exact ⟨s, by simp only [Co.put, e], hs⟩
theorem Hist.agree {was : List Fl} {I : Nat → Prop} {c : Co} {j : List Op} {l : List Ac} (h : Hist was c j l) (hL : Live I c j) : ∀ {s : Nat → Fl}, (∀ id, I id → s id = c.sto id) → Hist was ⟨c.map, s, c.used⟩ j l := by
 induction h with
 | nil h => intro s hs; exact .nil (h.agree hL.1 hs)
 | @snoc c j l o a h1 h2 h3 h4 h5 h6 ih =>
   intro s hs
   have ho := hL.2 o (by simp)
   obtain ⟨s', e', hs'⟩ := Co.undo_agree ho hs 0
   refine .snoc (h1.agree hL.1 hs) ?_ h3 h4 (fun hk => ?_) (fun hk m => ?_)
   ·rw [e']
    exact ih (hL.undo 0) hs'
   ·show o.at_ + o.old.length ≤ (s o.on).b.length ∧ _
    rw [hs o.on ho]
    exact h5 hk
   ·obtain ⟨s2, e2, hs2⟩ := Co.undo_agree ho hs m
    rw [e2]
    exact (h6 hk m).agree (hL.undo m).1 hs2
theorem upd_back {b p : List UInt8} {o s : Nat} (h : o + p.length ≤ b.length) (hs : s ≤ p.length) : upd (upd b o p) (o + s) (((b.drop o).take p.length).drop s) = upd b o (p.take s) := by
 have hl : (upd b o p).length = b.length := upd_len h
 have hd : (((b.drop o).take p.length).drop s).length = p.length - s := by simp; omega
 apply List.ext_getElem?
 intro i
 unfold upd at *
 simp only [List.getElem?_append, List.length_append, List.length_take, List.length_drop, List.getElem?_take, List.getElem?_drop]
 rcases Nat.lt_or_ge i o with h1 | h1
 ·simp (disch := omega) only [if_pos]
  repeat (first | rw [if_pos (by omega)] | rfl)
 ·rcases Nat.lt_or_ge i (o + s) with h2 | h2
  ·have e1 : i < min (o + s) (min o b.length + p.length + (b.length - (o + p.length))) := by omega
   repeat (first | rw [if_pos (by omega)] | rw [if_neg (by omega)] | rfl)
  ·rcases Nat.lt_or_ge i (o + p.length) with h3 | h3
   ·repeat (first | rw [if_pos (by omega)] | rw [if_neg (by omega)] | rfl | (congr 1; omega))
   ·repeat (first | rw [if_pos (by omega)] | rw [if_neg (by omega)] | rfl | (congr 1; omega))
theorem upd_nil (b : List UInt8) (o : Nat) : upd b o [] = b := by unfold upd; simp
end Vp
end
end Go.Proofs.YtljlanhpjpjgaaaGreatDoor
