/-
  CONTRACTS: chapter 15: the tokens that are left: next, takes.
-/
import Derived.Test.YtojmcndiooiehaaDoorTeMem
import Derived.Laws.ResultCell
namespace Go.Proofs.YtojmcndiooiehaaDoor
open Go.RowKit
open Me

namespace Te
theorem results_c1 {fn : Func} {p : Tmp} {ty : TypeId} (h : fn.results = #[.cell p ty]) (tmps : Array Value) (P : Program) (w : World) :
    (results fn tmps).run P w = ((asAddr (tmps.getD p undef)).run P w).andThen fun a w₁ => ((loadVar ty a).run P w₁).andThen fun v w₂ => .ok v w₂ := by
  simp only [results, h]
  simp [Sem.run_bind, Result.andThen]
  cases Sem.run P (asAddr (tmps[p]?.getD undef)) w with
  | ok a w1 => cases h2 : Sem.run P (loadVar ty a) w1 <;> simp [h2]
  | halt h w1 => rfl
theorem slice_from1 (W : World) (A : Option Addr) (n c : Nat) (hq : 1 ≤ n) (hc : n ≤ c) (A9 : Option Addr) (h9 : A9 = (if c = 1 then A else Option.map (fun x => x.add 2) A)) :
    (Instr.slice 36 (.slice A n c) (some (.int .i64 1)) none none).run Tryd.prog W = .ok (.slice A9 (n - 1) (c - 1)) W := by
  have h1 : ¬ (n : Int) < 1 := by omega
  have h2 : ¬ n < 1 := by omega
  have h3 : (0 : Int) ≤ 1 := by omega
  have h4 : (1 : Int) ≤ (n : Int) := by omega
  have h5 : (n : Int) ≤ (c : Int) := by omega
  subst h9
  cases A <;> by_cases e : c = 1 <;> simp [go_sem, *]
theorem rd_drop1 {w : World} {G : Nat → Prop} {A : Option Addr} {l : List Tok} {c : Nat} (h : Rd w G A (Lx.cellsT l)) (h0 : 1 ≤ l.length) (hc : l.length ≤ c) : Rd w G (if c = 1 then A else Option.map (fun x => x.add 2) A) (Lx.cellsT (l.drop 1)) := by
  cases l with
  | nil => cases h0
  | cons t r =>
    show Rd w G _ (Lx.cellsT r)
    by_cases hr : r = []
    · subst hr; exact Rd.none_ _ _ _
    · have h1 : 0 < r.length := List.length_pos_iff.2 hr
      have h2 : 1 < c := by simp at hc; omega
      rw [if_neg (by omega)]
      intro hn
      obtain ⟨ad, rfl, h3⟩ := h (by simp [Lx.cellsT, Lx.cellT])
      have := (Rd.sub (w := w) (G := G) (ad := ad) (xs := Lx.cellsT (t :: r)) (fun _ => ⟨ad, rfl, h3⟩) 2 (r.length * 2))
      have e : (Lx.cellsT (t :: r)).drop 2 = Lx.cellsT r := rfl
      rw [e, List.take_of_length_le (by rw [Lx.cellsT_len]; exact Nat.le_refl _)] at this
      exact this hn
end Te

set_option maxRecDepth 100000 in
set_option maxHeartbeats 2000000 in
theorem tnext_any {w : World} {b : Nat} {l : List Te.Tok} {c : Int} (h : Te.Ps w b l c) :
    Calls Tryd.prog 27 #[.pointer (some ⟨b, 0, none⟩)] w fun e w' => e = .returned (.agg #[.int .i64 (Te.hdT l).1, .string ⟨(Te.hdT l).2.toArray⟩]) ∧ Te.PsD w b (l.drop 1) c w' := by
  have hbl := h.lt
  have hb0 : b ≠ w.heap.size := by omega
  have HP := Lib.hid h
  obtain ⟨A, cp, hrow, hcp, hrd⟩ := h
  have c0 : w.cell? ⟨b, 0, none⟩ = some (.slice A l.length cp) := (hrow.cell 0).trans rfl
  have f0 := hrow.frozen 0
  cases l with
  | nil =>
    clear hrow hrd
    go_enter Tryd.func27, Tryd.ntmps27
    go_wp2
    refine bodyPost_ret ((Te.results_c1 rfl _ _ _).trans (by simp [go_sem, *]; rfl)) rfl ?_
    refine ⟨rfl, (Te.PsD.refl HP.out).on ?_⟩
    exact ((Below.refl _ _).alloc (Nat.le_refl _) _)
  | cons t r =>
    obtain ⟨k, s⟩ := t
    obtain ⟨b1, o1, rfl, hb1, x0, x1⟩ := Lx.rd_tok (i := 0) hrd (by simp)
    have x0 : w.cell? ⟨b1, o1, none⟩ = some (.int .i64 k) := x0
    have x1 : w.cell? ⟨b1, o1 + 1, none⟩ = some (.string ⟨s.toArray⟩) := x1
    obtain ⟨A9, h9⟩ : ∃ A9 : Option Addr, A9 = (if cp = 1 then (some ⟨b1, o1, none⟩ : Option Addr) else Option.map (fun x : Addr => x.add 2) (some ⟨b1, o1, none⟩ : Option Addr)) := ⟨_, rfl⟩
    have hn1 : 1 ≤ (((k, s) :: r) : List Te.Tok).length := by simp
    have k9 := fun W => Te.slice_from1 W (some ⟨b1, o1, none⟩) (((k, s) :: r) : List Te.Tok).length cp hn1 hcp A9 h9
    have hd9 : Rd w (fun i => i < b) A9 (Lx.cellsT r) := by rw [h9]; exact Te.rd_drop1 hrd hn1 hcp
    have HRow := Lib.hid hrow
    have HR9 := Lib.hid hd9
    have HCP := Lib.hid hcp
    have hl0 : ((((k, s) :: r) : List Te.Tok).length : Int) ≠ 0 := by rw [List.length_cons]; omega
    have hl1 : (0 : Int) < ((((k, s) :: r) : List Te.Tok).length : Int) := by rw [List.length_cons]; omega
    have hlp : 0 < (((k, s) :: r) : List Te.Tok).length := hn1
    have hlm : (((k, s) :: r) : List Te.Tok).length - 1 = r.length := by simp
    generalize (((k, s) :: r) : List Te.Tok).length = N at *
    clear hrow hrd hd9 h9 hcp
    go_enter Tryd.func27, Tryd.ntmps27
    go_wp2
    refine bodyPost_ret ((Te.results_c1 rfl _ _ _).trans (by simp [go_sem, *]; rfl)) rfl ?_
    refine ⟨rfl, ⟨⟨A9, cp - 1, ((HRow.out.set_ 0 _).alloc _).alloc _, ?_, ?_⟩, (((Kp.refl (fun i => i = b) w).setCell ⟨b, 0, none⟩ (.inr rfl) _).alloc _).alloc _⟩⟩
    · have := HCP.out; show r.length ≤ _; omega
    · refine HR9.out.kp (O := fun i => i = b) ((((Kp.refl (fun i => i = b) w).setCell ⟨b, 0, none⟩ (.inr rfl) _).alloc _).alloc _) fun i _ h => Nat.ne_of_lt h

set_option maxRecDepth 100000 in
set_option maxHeartbeats 2000000 in
theorem ttakes_any {w : World} {b : Nat} {l : List Te.Tok} {c : Int} (h : Te.Ps w b l c) (k : Int) :
    Calls Tryd.prog 29 #[.pointer (some ⟨b, 0, none⟩), .int .i64 k] w fun e w' => e = .returned (.bool (Te.hd k l)) ∧ Te.PsD w b (if Te.hd k l = true then l.drop 1 else l) c w' := by
  have hbl := h.lt
  have HP := Lib.hid h
  have HN := Lib.hid (tnext_any h)
  obtain ⟨A, cp, hrow, hcp, hrd⟩ := h
  have c0 : w.cell? ⟨b, 0, none⟩ = some (.slice A l.length cp) := (hrow.cell 0).trans rfl
  obtain ⟨L2, hL2⟩ : ∃ L2, L2 = (if Te.hd k l = true then l.drop 1 else l) := ⟨_, rfl⟩
  obtain ⟨Q, hQ⟩ : ∃ Q, Q = Te.hd k l := ⟨_, rfl⟩
  rw [← hL2, ← hQ]
  cases l with
  | nil =>
    obtain rfl : L2 = [] := hL2
    obtain rfl : Q = false := hQ
    clear hrow hrd
    go_enter Tryd.func29, Tryd.ntmps29
    go_wp2
    go_ret
    exact ⟨rfl, Te.PsD.refl HP.out⟩
  | cons t r =>
    obtain ⟨q, s⟩ := t
    obtain ⟨b1, o1, rfl, hb1, x0, x1⟩ := Lx.rd_tok (i := 0) hrd (by simp)
    have x0 : w.cell? ⟨b1, o1, none⟩ = some (.int .i64 q) := x0
    have hl1 : (0 : Int) < ((((q, s) :: r) : List Te.Tok).length : Int) := by rw [List.length_cons]; omega
    have hlp : 0 < (((q, s) :: r) : List Te.Tok).length := by simp
    have HE : Hid (Te.hd k ((q, s) :: r) = decide (q = k)) := Lib.hid rfl
    by_cases hq : q = k
    · obtain rfl : Q = true := by rw [hQ, HE.out]; exact decide_eq_true hq
      have HL2 : Hid (L2 = r) := Lib.hid (by rw [hL2, ← hQ]; rfl)
      clear hQ hL2
      have hqb : (q == k) = true := by simpa using hq
      generalize (((q, s) :: r) : List Te.Tok).length = N at *
      clear hrow hrd
      go_enter Tryd.func29, Tryd.ntmps29
      go_wp2_with (go_at_call 27; go_must (refine HN.out.mono ?_; rintro e w2 ⟨rfl, hd⟩; have HD := Lib.hid hd; clear hd))
      go_ret
      exact ⟨rfl, by rw [HL2.out]; exact HD.out⟩
    · obtain rfl : Q = false := by rw [hQ, HE.out]; exact decide_eq_false hq
      have HL2 : Hid (L2 = (q, s) :: r) := Lib.hid (by rw [hL2, ← hQ]; rfl)
      clear hQ hL2
      have hqb : (q == k) = false := by simpa using hq
      generalize (((q, s) :: r) : List Te.Tok).length = N at *
      clear hrow hrd
      go_enter Tryd.func29, Tryd.ntmps29
      go_wp2_with fail
      go_ret
      exact ⟨rfl, by rw [HL2.out]; exact Te.PsD.refl HP.out⟩
end Go.Proofs.YtojmcndiooiehaaDoor
