/-
  TePar: CONTRACTS: chapter 15: the program's target and Parse.
  TeOut: CONTRACTS: chapter 15: what a parse leaves, told at once.
-/
import Derived.Test.YtojmcndiooiehaaGreatDoorJ19
import Derived.Test.YtojmcndiooiehaaGreatDoorJ9

set_option linter.unusedSimpArgs false
set_option linter.unusedVariables false
namespace Go.Proofs.YtojmcndiooiehaaGreatDoor
open Go.RowKit
open Me

namespace Te
/-- What a parse leaves: a node, or an error. -/
def GotR (G : Nat → Prop) (res : Except Int Nd) (e : Ending) (w' : World) : Prop :=
  ∃ (k : Int) (s : List UInt8) (n : Int) (ks : List Nd) (v : Value) (er : Int), e = .returned (.tuple #[.agg #[.int .i64 k, .string ⟨s.toArray⟩, .int .i64 n, v], .int .i64 er]) ∧
    ((er = 0 ∧ res = .ok (.mk k s n ks) ∧ At w' G (.mk k s n ks) v) ∨ (er ≠ 0 ∧ res = .error er ∧ k = 0 ∧ s = [] ∧ n = 0 ∧ ks = [] ∧ v = .slice none 0 0))
theorem parse_ok {l : List Tok} {n : Nd} (h : expr 64 l = .ok (n, [])) : parse l = .ok n := by unfold parse; rw [h]; rfl
theorem parse_rest {l r : List Tok} {n : Nd} (h : expr 64 l = .ok (n, r)) (hr : r ≠ []) : parse l = .error 8 := by unfold parse; rw [h]; exact if_neg hr
theorem parse_bad {l : List Tok} {e : Int} (h : expr 64 l = .error e) : parse l = .error e := by unfold parse; rw [h]
theorem texpr_top : ExprC 0 64 := by
  have := texpr_any 64 (Nat.le_refl _)
  simpa using this
end Te

set_option maxRecDepth 100000 in
set_option maxHeartbeats 8000000 in
theorem ttarget_any (l : List Te.Tok) (b : Nat) (w : World) (hl : Te.Small l) (h : Te.Ps w b l 0) :
    Calls Tryz.prog 20 #[.pointer (some ⟨b, 0, none⟩)] w fun e w' => Te.GotR (fun i => w.heap.size ≤ i) (Te.parse l) e w' ∧ Kp (fun i => i = b) w w' := by
  have hbl := h.lt
  have hb0 : b ≠ w.heap.size := by omega
  obtain ⟨w0, hw0⟩ : ∃ w0, w0 = w.alloc (.cells #[.int .i64 0, .string ⟨#[]⟩, .int .i64 0, .slice none 0 0] 24) := ⟨_, rfl⟩
  have HB0 : Hid (Below w.heap.size w w0) := Lib.hid (by rw [hw0]; exact (Below.refl _ _).alloc (Nat.le_refl _) _)
  have HO0 : Hid (RowAt w0 w.heap.size 24 #[.int .i64 0, .string ⟨#[]⟩, .int .i64 0, .slice none 0 0]) := Lib.hid (by rw [hw0]; exact RowAt.new w _ _)
  have HP0 : Hid (Te.Ps w0 b l 0) := Lib.hid (h.kp HB0.out)
  have hs0 : w.heap.size + 1 = w0.heap.size := by rw [hw0]; simp
  have HX := Lib.hid (Te.texpr_top l b w0 hl HP0.out)
  have HOK := Lib.hid (fun n => Te.parse_ok (l := l) (n := n))
  have HRS := Lib.hid (fun n r => Te.parse_rest (l := l) (n := n) (r := r))
  have HBD := Lib.hid (fun e => Te.parse_bad (l := l) (e := e))
  generalize Te.parse l = res at *
  clear h hl
  go_enter Tryz.func20, Tryz.ntmps20
  go_wp2_with fail
  rw [← hw0]
  clear hw0
  go_at_call 32
  refine HX.out.mono ?_
  rintro e w1 ⟨k, s, n, ks, v, er, rfl, hk1, hres⟩
  have ho1 := Te.beside HO0.out hk1 (by omega)
  have p0 : w1.cell? ⟨w.heap.size, 0, none⟩ = some (.int .i64 0) := (ho1.cell 0).trans rfl; have q0 : w1.frozen? ⟨w.heap.size, 0, none⟩ = false := ho1.frozen 0; have p1 : w1.cell? ⟨w.heap.size, 1, none⟩ = some (.string ⟨#[]⟩) := (ho1.cell 1).trans rfl; have q1 : w1.frozen? ⟨w.heap.size, 1, none⟩ = false := ho1.frozen 1; have p2 : w1.cell? ⟨w.heap.size, 2, none⟩ = some (.int .i64 0) := (ho1.cell 2).trans rfl; have q2 : w1.frozen? ⟨w.heap.size, 2, none⟩ = false := ho1.frozen 2; have p3 : w1.cell? ⟨w.heap.size, 3, none⟩ = some (.slice none 0 0) := (ho1.cell 3).trans rfl; have q3 : w1.frozen? ⟨w.heap.size, 3, none⟩ = false := ho1.frozen 3
  have l1 := ho1.lt
  have HK1 : Hid (Kp (fun i => i = b) w w1) := Lib.hid ((Kp.of_below HB0.out).trans hk1 fun _ _ e => e)
  have hz1 := hk1.size
  clear hk1 ho1
  rcases hres with ⟨rfl, r, hr, hps, hat⟩ | ⟨hne, hr, rfl, rfl, rfl, rfl, rfl⟩
  · obtain ⟨Ak, ck, xk, rfl, _, _⟩ := hat.form
    have HR := Lib.hid hr
    have HA := Lib.hid hat
    obtain ⟨A, cp, hrow, hcp, _⟩ := hps
    have c0 : w1.cell? ⟨b, 0, none⟩ = some (.slice A r.length cp) := (hrow.cell 0).trans rfl
    have hb1 : b ≠ w1.heap.size := by omega
    have hb2 : b < w1.heap.size := by omega
    clear hr hat hrow hcp
    by_cases hr0 : r = []
    · subst hr0
      have HQ := Lib.hid (HOK.out _ HR.out)
      have c0 : w1.cell? ⟨b, 0, none⟩ = some (.slice A 0 cp) := c0
      go_wp2_with fail
      refine bodyPost_ret ((results_cell_tmp rfl _ _ _).trans (by simp [go_sem, *]; rfl)) rfl ?_
      refine ⟨⟨k, s, n, ks, _, 0, rfl, .inl ⟨rfl, HQ.out, ?_⟩⟩, ((((HK1.out.setCell _ (.inl (Nat.le_refl _)) _).setCell _ (.inl (Nat.le_refl _)) _).setCell _ (.inl (Nat.le_refl _)) _).setCell _ (.inl (Nat.le_refl _)) _).alloc _⟩
      refine (HA.out.kp (O := fun i => i = w.heap.size) ((((((Kp.refl (fun i => i = w.heap.size) w1).setCell ⟨w.heap.size, 0, none⟩ (.inr rfl) _).setCell ⟨w.heap.size, 1, none⟩ (.inr rfl) _).setCell ⟨w.heap.size, 2, none⟩ (.inr rfl) _).setCell ⟨w.heap.size, 3, none⟩ (.inr rfl) _).alloc _) fun i _ hi e => ?_).mono fun i _ hi => ?_
      · have hi : w0.heap.size ≤ i := hi
        have e : i = w.heap.size := e
        omega
      · have hi : w0.heap.size ≤ i := hi
        show w.heap.size ≤ i
        omega
    · have HQ := Lib.hid (HRS.out _ _ HR.out hr0)
      have hr1 : 0 < r.length := List.length_pos_iff.2 hr0
      have hr2 : (0 : Int) < (r.length : Int) := by omega
      generalize r.length = m at *
      clear hr0
      go_wp2_with fail
      refine bodyPost_ret ((results_cell_tmp rfl _ _ _).trans (by simp [go_sem, *]; rfl)) rfl ?_
      exact ⟨⟨0, [], 0, [], .slice none 0 0, 8, rfl, .inr ⟨by decide, HQ.out, rfl, rfl, rfl, rfl, rfl⟩⟩, ((((HK1.out.setCell _ (.inl (Nat.le_refl _)) _).setCell _ (.inl (Nat.le_refl _)) _).setCell _ (.inl (Nat.le_refl _)) _).setCell _ (.inl (Nat.le_refl _)) _).alloc _⟩
  · have HQ := Lib.hid (HBD.out _ hr)
    have HE := Lib.hid hne
    have en : (er == 0) = false := by simpa using hne
    clear hr
    go_wp2_with fail
    refine bodyPost_ret ((results_cell_tmp rfl _ _ _).trans (by simp [go_sem, *]; rfl)) rfl ?_
    exact ⟨⟨0, [], 0, [], .slice none 0 0, er, rfl, .inr ⟨HE.out, HQ.out, rfl, rfl, rfl, rfl, rfl⟩⟩, ((((HK1.out.setCell _ (.inl (Nat.le_refl _)) _).setCell _ (.inl (Nat.le_refl _)) _).setCell _ (.inl (Nat.le_refl _)) _).setCell _ (.inl (Nat.le_refl _)) _).alloc _⟩

namespace Te
theorem lex_small {s : List UInt8} (h : Lx.lexErr s = 0) : Small (Lx.lexL s) ∧ parseS s = parse (Lx.lexL s) := by
  by_cases hl : 4096 < s.length
  · rw [(Lx.lex_long hl).1] at h; cases h
  · cases hx : Lx.lex s with
    | none => rw [(Lx.lex_no hl hx).1] at h; cases h
    | some x =>
      rw [(Lx.lex_yes hl hx).2]
      refine ⟨⟨?_, fun t ht => ?_⟩, ?_⟩
      · have := Lx.lex_count hx; omega
      · have := Lx.lex_len hx t ht; omega
      · unfold parseS; rw [if_neg hl, hx]
theorem lex_bad {s : List UInt8} (h : Lx.lexErr s ≠ 0) : parseS s = .error (Lx.lexErr s) := by
  by_cases hl : 4096 < s.length
  · rw [(Lx.lex_long hl).1]; unfold parseS; rw [if_pos hl]
  · cases hx : Lx.lex s with
    | none => rw [(Lx.lex_no hl hx).1]; unfold parseS; rw [if_neg hl, hx]
    | some x => exact absurd (Lx.lex_yes hl hx).1 h
theorem own_cap {e : TypeId} {base : Nat} {w : World} {A : Option Addr} {c : Nat} {l : List Tok} (h : Lx.OwnT e base w (.slice A l.length c) l) : l.length ≤ c := by
  rcases h.2 with ⟨hv, h0⟩ | ⟨g, cap, cur, hv, _, _, h1, _⟩
  · omega
  · injection hv with h2 h3 h4; omega
end Te

set_option maxRecDepth 100000 in
set_option maxHeartbeats 8000000 in
/-- The program's Parse, for every text. -/
theorem tparse_any (s : List UInt8) (hs : s.length ≤ 4294967280) (w : World) :
    Calls Tryz.prog 7 #[.string ⟨s.toArray⟩] w fun e w' => Te.GotR (fun i => w.heap.size ≤ i) (Te.parseS s) e w' ∧ Below w.heap.size w w' := by
  have HL := Lib.hid fun W => llex_any s hs W
  have HSM := Lib.hid (Te.lex_small (s := s))
  have HBD := Lib.hid (Te.lex_bad (s := s))
  generalize Te.parseS s = res at *
  go_enter Tryz.func7, Tryz.ntmps7
  go_wp2_with fail
  go_at_call 19
  refine (HL.out _).mono ?_
  rintro e w1 ⟨v, rfl, ho, hb⟩
  obtain ⟨A, cp, rfl⟩ := ho.form
  have HO := Lib.hid ho
  have HB1 : Hid (Below w.heap.size w w1) := Lib.hid (((Below.refl _ _).alloc (Nat.le_refl _) _).trans (hb.mono (by simp)))
  have ho1 : RowAt w1 w.heap.size 24 #[.int .i64 0, .string ⟨#[]⟩, .int .i64 0, .slice none 0 0] := (RowAt.new w _ _).below hb (by simp)
  have HO1 := Lib.hid ho1
  have p0 : w1.cell? ⟨w.heap.size, 0, none⟩ = some (.int .i64 0) := (ho1.cell 0).trans rfl; have q0 : w1.frozen? ⟨w.heap.size, 0, none⟩ = false := ho1.frozen 0; have p1 : w1.cell? ⟨w.heap.size, 1, none⟩ = some (.string ⟨#[]⟩) := (ho1.cell 1).trans rfl; have q1 : w1.frozen? ⟨w.heap.size, 1, none⟩ = false := ho1.frozen 1; have p2 : w1.cell? ⟨w.heap.size, 2, none⟩ = some (.int .i64 0) := (ho1.cell 2).trans rfl; have q2 : w1.frozen? ⟨w.heap.size, 2, none⟩ = false := ho1.frozen 2; have p3 : w1.cell? ⟨w.heap.size, 3, none⟩ = some (.slice none 0 0) := (ho1.cell 3).trans rfl; have q3 : w1.frozen? ⟨w.heap.size, 3, none⟩ = false := ho1.frozen 3
  have l1 := ho1.lt
  clear ho hb ho1
  generalize Lx.lexErr s = er at *
  by_cases he : er = 0
  · have HS := Lib.hid (HSM.out he)
    generalize Lx.lexL s = l at *
    subst he
    obtain ⟨w2, hw2⟩ : ∃ w2, w2 = w1.alloc (.cells #[.slice A l.length cp, .int .i64 0] 42) := ⟨_, rfl⟩
    have HP : Hid (Te.Ps w2 w1.heap.size l 0) := Lib.hid ⟨A, cp, by rw [hw2]; exact RowAt.new w1 _ _, Te.own_cap HO.out, by
      rw [hw2]
      have h1 := HO.out.lt
      exact ((Rd.own (show w1.ownsRow _ _ 2 (.slice A l.length cp) l.length _ from HO.out)).mono fun i _ hi => (h1 i hi).2).below ((Below.refl _ _).alloc (Nat.le_refl _) _)⟩
    have HB2 : Hid (Below w.heap.size w w2) := Lib.hid (by rw [hw2]; exact HB1.out.alloc (by omega) _)
    have HO2 : Hid (RowAt w2 w.heap.size 24 #[.int .i64 0, .string ⟨#[]⟩, .int .i64 0, .slice none 0 0]) := Lib.hid (by rw [hw2]; exact HO1.out.alloc _)
    have HT := Lib.hid (ttarget_any l w1.heap.size w2 HS.out.1 HP.out)
    have hs2 : w2.heap.size = w1.heap.size + 1 := by rw [hw2]; simp
    go_wp2_with fail
    rw [← hw2]
    clear hw2
    go_at_call 20
    refine HT.out.mono ?_
    rintro e w3 ⟨⟨k, t, n, ks, v, er, rfl, hres⟩, hk3⟩
    have ho3 := Te.beside HO2.out hk3 (by omega)
    clear p0 p1 p2 p3 q0 q1 q2 q3
    have p0 : w3.cell? ⟨w.heap.size, 0, none⟩ = some (.int .i64 0) := (ho3.cell 0).trans rfl; have q0 : w3.frozen? ⟨w.heap.size, 0, none⟩ = false := ho3.frozen 0; have p1 : w3.cell? ⟨w.heap.size, 1, none⟩ = some (.string ⟨#[]⟩) := (ho3.cell 1).trans rfl; have q1 : w3.frozen? ⟨w.heap.size, 1, none⟩ = false := ho3.frozen 1; have p2 : w3.cell? ⟨w.heap.size, 2, none⟩ = some (.int .i64 0) := (ho3.cell 2).trans rfl; have q2 : w3.frozen? ⟨w.heap.size, 2, none⟩ = false := ho3.frozen 2; have p3 : w3.cell? ⟨w.heap.size, 3, none⟩ = some (.slice none 0 0) := (ho3.cell 3).trans rfl; have q3 : w3.frozen? ⟨w.heap.size, 3, none⟩ = false := ho3.frozen 3
    have l3 := ho3.lt
    have HB3 : Hid (Below w.heap.size w w3) := Lib.hid (HB2.out.trans (hk3.below (by omega) fun i hi e => by have e : i = w1.heap.size := e; omega))
    clear hk3 ho3
    rcases hres with ⟨rfl, hr, hat⟩ | ⟨hne, hr, rfl, rfl, rfl, rfl, rfl⟩
    · obtain ⟨Ak, ck, xk, rfl, _, _⟩ := hat.form
      have HR := Lib.hid hr
      have HA := Lib.hid hat
      clear hr hat
      go_wp2_with fail
      refine bodyPost_ret ((results_cell_tmp rfl _ _ _).trans (by simp [go_sem, *]; rfl)) rfl ?_
      refine ⟨⟨k, t, n, ks, _, 0, rfl, .inl ⟨rfl, by rw [HS.out.2]; exact HR.out, ?_⟩⟩, ?_⟩
      · refine (HA.out.kp (O := fun i => i = w.heap.size) (((((Kp.refl (fun i => i = w.heap.size) w3).setCell ⟨w.heap.size, 0, none⟩ (.inr rfl) _).setCell ⟨w.heap.size, 1, none⟩ (.inr rfl) _).setCell ⟨w.heap.size, 2, none⟩ (.inr rfl) _).setCell ⟨w.heap.size, 3, none⟩ (.inr rfl) _) fun i _ hi e => ?_).mono fun i _ hi => ?_
        · have hi : w2.heap.size ≤ i := hi
          have e : i = w.heap.size := e
          omega
        · have hi : w2.heap.size ≤ i := hi
          show w.heap.size ≤ i
          omega
      · have h := HB3.out; exact (by repeat (first | exact Below.refl _ _ | assumption | refine Below.setCell ?_ (by first | (simp; done) | omega | (simp; omega) | (simp at *; omega)) _ | refine Below.alloc ?_ (by first | (simp; done) | omega | (simp; omega) | (simp at *; omega)) _ | refine Below.drew ?_ | (refine Below.trans ?_ (Below.mono (by assumption) (by first | (simp; done) | omega | (simp; omega) | (simp at *; omega)))) | (refine Below.trans ?_ (Below.mono (below_regrown _ _ _) (by first | (simp; done) | omega | (simp; omega) | (simp at *; omega))))))
    · have HR := Lib.hid hr
      have HE := Lib.hid hne
      clear hr hne
      go_wp2_with fail
      refine bodyPost_ret ((results_cell_tmp rfl _ _ _).trans (by simp [go_sem, *]; rfl)) rfl ?_
      exact ⟨⟨0, [], 0, [], .slice none 0 0, er, rfl, .inr ⟨HE.out, by rw [HS.out.2]; exact HR.out, rfl, rfl, rfl, rfl, rfl⟩⟩, by have h := HB3.out; exact (by repeat (first | exact Below.refl _ _ | assumption | refine Below.setCell ?_ (by first | (simp; done) | omega | (simp; omega) | (simp at *; omega)) _ | refine Below.alloc ?_ (by first | (simp; done) | omega | (simp; omega) | (simp at *; omega)) _ | refine Below.drew ?_ | (refine Below.trans ?_ (Below.mono (by assumption) (by first | (simp; done) | omega | (simp; omega) | (simp at *; omega)))) | (refine Below.trans ?_ (Below.mono (below_regrown _ _ _) (by first | (simp; done) | omega | (simp; omega) | (simp at *; omega))))))⟩
  · have HQ := Lib.hid (HBD.out he)
    have HE := Lib.hid he
    have en : (er == 0) = false := by simpa using he
    go_wp2_with fail
    refine bodyPost_ret ((results_cell_tmp rfl _ _ _).trans (by simp [go_sem, *]; rfl)) rfl ?_
    exact ⟨⟨0, [], 0, [], .slice none 0 0, er, rfl, .inr ⟨HE.out, HQ.out, rfl, rfl, rfl, rfl, rfl⟩⟩, by have h := HB1.out; exact (by repeat (first | exact Below.refl _ _ | assumption | refine Below.setCell ?_ (by first | (simp; done) | omega | (simp; omega) | (simp at *; omega)) _ | refine Below.alloc ?_ (by first | (simp; done) | omega | (simp; omega) | (simp at *; omega)) _ | refine Below.drew ?_ | (refine Below.trans ?_ (Below.mono (by assumption) (by first | (simp; done) | omega | (simp; omega) | (simp at *; omega)))) | (refine Below.trans ?_ (Below.mono (below_regrown _ _ _) (by first | (simp; done) | omega | (simp; omega) | (simp at *; omega))))))⟩
end Go.Proofs.YtojmcndiooiehaaGreatDoor

namespace Go.Proofs.YtojmcndiooiehaaGreatDoor
open Go.RowKit Go.Sort
open Me

namespace Te
theorem GotR.out {G : Nat → Prop} {res : Except Int Nd} {e : Ending} {w' : World} (h : GotR G res e w') : ∃ A c, e = .returned (.tuple #[val (ndOf res) (.slice A (ndOf res).ks.length c), .int .i64 (erOf res)]) ∧ At w' G (ndOf res) (.slice A (ndOf res).ks.length c) := by
  obtain ⟨k, s, n, ks, v, er, he, hr⟩ := h
  rcases hr with ⟨rfl, h1, h2⟩ | ⟨_, h1, rfl, rfl, rfl, rfl, rfl⟩
  · obtain ⟨A, c, xs, rfl, _, _⟩ := h2.form
    rw [h1]
    exact ⟨A, c, he, h2⟩
  · rw [h1]
    exact ⟨none, 0, he, At.zero _ _ _ _ _⟩
end Te
end Go.Proofs.YtojmcndiooiehaaGreatDoor
