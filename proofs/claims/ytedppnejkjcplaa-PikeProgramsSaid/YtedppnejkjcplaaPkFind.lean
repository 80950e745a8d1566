/-
  CONTRACTS: chapter 12: Find, Is (the program's own): for every program and text.
-/
import Derived.Test.YtedppnejkjcplaaPkNew
namespace Go.Proofs.Ytedppnejkjcplaa
open Go.RowKit Go.Sort
open Me
open Pk

namespace Pk
/-- What is found. -/
def findP (G : Int) (L : List Rx.In) (t : List UInt8) (fr : Int) : Option Row :=
  if fr < 0 ∨ (t.length : Int) < fr ∨ G < 0 ∨ 1024 < G then none else first L t (2 * G.toNat + 2) fr.toNat (t.length + 1 - fr.toNat)
/-- What Find leaves. -/
def Foundr (W : World) (R : Option Row) (e : Ending) (W' : World) : Prop := ∃ v b, e = .returned (.tuple #[v, .bool b]) ∧ Below W.heap.size W W' ∧ match R with
  | none => v = .slice none 0 0 ∧ b = false
  | some r => W'.ownsRow W.heap.size intT 1 v r.length (iv r) ∧ b = true ∧ 0 < r.length
theorem Foundr.drewN {W W' : World} {R : Option Row} {e : Ending} (h : Foundr W R e W') (n : Nat) : Foundr W R e (W'.drewN n) := by
  obtain ⟨v, b, he, hb, hm⟩ := h
  refine ⟨v, b, he, ⟨hb.os, hb.tape, hb.output, hb.size, hb.block⟩, ?_⟩
  cases R <;> exact hm
end Pk

set_option maxRecDepth 100000 in
set_option maxHeartbeats 8000000 in
theorem find_no {W : World} {A : Option Addr} {cp n : Nat} {t : List UInt8} {G fr : Int} (h : fr < 0 ∨ (t.length : Int) < fr ∨ G < 0 ∨ 1024 < G) :
    Calls Try.prog 13 #[.agg #[.int .i64 G, .slice A n cp], .string ⟨t.toArray⟩, .int .i64 fr] W (Pk.Foundr W none) := by
  have hB : Hid (Below W.heap.size W (W.alloc (.cells #[.int .i64 G, .slice A n cp] 24))) := Lib.hid ((Below.refl _ _).alloc (Nat.le_refl _) _)
  by_cases h1 : fr < 0
  · clear h
    go_enter Try.func13, Try.ntmps13
    go_wp2_with fail
    ((try simp only [Exit.inBlock, Exit.then]); refine bodyPost_ret (results_tmp2 rfl _ _ _) rfl ?_)
    exact ⟨_, _, rfl, hB.out, rfl, rfl⟩
  by_cases h2 : (t.length : Int) < fr
  · clear h
    go_enter Try.func13, Try.ntmps13
    go_wp2_with fail
    ((try simp only [Exit.inBlock, Exit.then]); refine bodyPost_ret (results_tmp2 rfl _ _ _) rfl ?_)
    exact ⟨_, _, rfl, hB.out, rfl, rfl⟩
  by_cases h3 : G < 0
  · clear h
    go_enter Try.func13, Try.ntmps13
    go_wp2_with fail
    ((try simp only [Exit.inBlock, Exit.then]); refine bodyPost_ret (results_tmp2 rfl _ _ _) rfl ?_)
    exact ⟨_, _, rfl, hB.out, rfl, rfl⟩
  · have h4 : 1024 < G := by omega
    clear h
    go_enter Try.func13, Try.ntmps13
    go_wp2_with fail
    ((try simp only [Exit.inBlock, Exit.then]); refine bodyPost_ret (results_tmp2 rfl _ _ _) rfl ?_)
    exact ⟨_, _, rfl, hB.out, rfl, rfl⟩

set_option maxRecDepth 100000 in
set_option maxHeartbeats 8000000 in
theorem find_yes {W : World} {A : Option Addr} {cp : Nat} {L : List Rx.In} {t : List UInt8} {G fr : Nat} (hp : Rd W (fun _ => True) A (icells L)) (hL : L.length ≤ 4096) (ht : t.length ≤ 1048576) (hG : G ≤ 1024) (hfr : fr ≤ t.length) :
    Calls Try.prog 13 #[.agg #[.int .i64 (G : Int), .slice A L.length cp], .string ⟨t.toArray⟩, .int .i64 (fr : Int)] W (Pk.Foundr W (Pk.first L t (2 * G + 2) fr (t.length + 1 - fr))) := by
  have qT : ∀ (w : World) (a : Option Addr) (n c : Nat), (binOp .neq 28 (.slice a n c) (.slice none 0 0)).run Try.prog w = .ok (.bool (!a.isNone)) w := fun w a n c => run_neq_slice_nil w _ _ a n c Try.underlying28
  have h1 : ¬ (fr : Int) < 0 := by omega
  have h2 : ¬ (t.length : Int) < (fr : Int) := by omega
  have h3 : ¬ (G : Int) < 0 := by omega
  have h4 : ¬ (1024 : Int) < (G : Int) := by omega
  have htI : (t.length : Int) ≤ 1048576 := by omega
  obtain ⟨R, hR⟩ : ∃ R, Pk.pike L t (2 * G + 2) fr (t.length + 1 - fr) [] none = R := ⟨_, rfl⟩
  have e : Pk.first L t (2 * G + 2) fr (t.length + 1 - fr) = R := by rw [← hR, pike_first _ _ _ (by omega)]
  rw [e]
  obtain ⟨w, hw⟩ : ∃ w, w = 2 * G + 2 := ⟨_, rfl⟩
  rw [← hw] at hR
  have HB0 : Hid (Below W.heap.size W (W.alloc (.cells #[.int .i64 (G : Int), .slice A L.length cp] 24))) := Lib.hid ((Below.refl _ _).alloc (Nat.le_refl _) _)
  have HNS : Hid (Calls Try.prog 30 #[.agg #[.int .i64 (G : Int), .slice A L.length cp], .string ⟨t.toArray⟩] (W.alloc (.cells #[.int .i64 (G : Int), .slice A L.length cp] 24)) fun e W' => ∃ sb c, e = .returned (.pointer (some ⟨sb, 0, none⟩)) ∧ Below W.heap.size W W' ∧ (∀ k, Pk.Sv c W' sb k [] none) ∧ c.L = L ∧ c.t = t ∧ c.wd = w ∧ W.heap.size ≤ c.b0) := Lib.hid (by
    refine (newSearch_any (hp.below HB0.out) hL ht (by omega)).mono ?_
    rintro e W' ⟨sb, c, he, hb, hv, h1, h2, h3, h4⟩
    exact ⟨sb, c, he, HB0.out.trans (hb.mono HB0.out.size), hv, h1, h2, by rw [h3, hw], by rw [h4]; exact HB0.out.size⟩)
  have HR := Lib.hid hR
  clear hp e hR hw
  go_enter Try.func13, Try.ntmps13
  go_wp2_with (go_at_call 30; go_must (refine HNS.out.mono ?_; rintro e w1 ⟨sb, c0, rfl, hb1, hv1, e1, e2, e3, e4⟩; have HB1 := Lib.hid hb1; have H1 : Hid (∃ c l f, Pk.Sv c w1 sb fr l f ∧ c.L = L ∧ c.t = t ∧ c.wd = w ∧ W.heap.size ≤ c.b0 ∧ Pk.pike L t w fr (t.length + 1 - fr) l f = R) := Lib.hid ⟨c0, [], none, hv1 fr, e1, e2, e3, e4, HR.out⟩; clear hb1 hv1 e1 e2 e3 e4))
  go_loopw [9] (fun x wr => ∃ k : Nat, x = .int .i64 (k : Int) ∧ k ≤ t.length + 1 ∧ Hid (Below W.heap.size W wr) ∧ Hid (∃ c l f, Pk.Sv c wr sb k l f ∧ c.L = L ∧ c.t = t ∧ c.wd = w ∧ W.heap.size ≤ c.b0 ∧ Pk.pike L t w k (t.length + 1 - k) l f = R)) (fun x _ => t.length + 1 - (intOf x).toNat)
  case atStart => exact ⟨fr, rfl, by omega, HB1, H1⟩
  case round =>
    obtain ⟨k, rfl, hk, HB, H2⟩ := hrel
    obtain ⟨c, l, f, hv, e1, e2, e3, e4, hP⟩ := H2.out
    clear H1 H2
    -- what is found in the end
    have HEND : Hid (∀ x, f = x → x = R → Pk.Foundr W R (.returned (.tuple #[c.fv, .bool x.isSome])) wr) := Lib.hid fun x hx hxR => by
      subst hx hxR
      refine ⟨_, _, rfl, HB.out, ?_⟩
      have hf := hv.fnd
      cases f with
      | none => exact ⟨hf.2, rfl⟩
      | some r =>
        have ho := hv.se.ofv
        rw [hf.1] at ho
        have htw := hv.se.tw
        refine ⟨?_, rfl, by rw [hf.2]; omega⟩
        refine ⟨ho.1, ?_⟩
        rcases ho.2 with hn | ⟨g, cap, cur, hv2, hb2, rest⟩
        · exact .inl hn
        · exact .inr ⟨g, cap, cur, hv2, by omega, rest⟩
    have c11 : wr.cell? ⟨sb, 11, none⟩ = some c.fv := (hv.se.cell 11).trans rfl
    have hff : (f = none ∧ c.fv = .slice none 0 0) ∨ ∃ r g cap, f = some r ∧ c.fv = .slice (some ⟨g, 0, none⟩) r.length cap := by
      have hf := hv.fnd
      cases f with
      | none => exact .inl ⟨rfl, hf.2⟩
      | some r =>
        have htw := hv.se.tw
        have ho := hv.se.ofv
        rw [hf.1] at ho
        obtain ⟨g, cap, h, _⟩ := own_some ho (by rw [hf.2]; omega)
        exact .inr ⟨r, g, cap, rfl, h⟩
    have hGO := goesOn_any hv.se (by
      have hf := hv.fnd
      intro h0
      cases f with
      | none => exact hf.2
      | some r =>
        have htw := hv.se.tw
        have := hf.2
        rw [← hf.1, h0] at this
        simp at this
        omega)
    by_cases hkl : k ≤ t.length
    · have hkI : (k : Int) ≤ (t.length : Int) := by omega
      obtain ⟨go, hgo⟩ : ∃ go, (decide (c.fl = []) || !decide (c.nhds = [])) = go := ⟨_, rfl⟩
      rw [hgo] at hGO
      have HGO := Lib.hid hGO
      cases go with
      | false =>
        have hfR : f = R := by
          have h1 : ¬ c.fl = [] ∧ c.nhds = [] := by simpa using hgo
          have hl : l = [] := by
            have h2 := h1.2
            rw [hv.nhds] at h2
            simpa using h2
          have hf := hv.fnd
          cases f with
          | none => exact (h1.1 hf.1).elim
          | some r =>
            subst hl
            rw [← hP, pike_done]
        have HQ := Lib.hid (HEND.out f rfl hfR)
        clear HEND hGO hP hv hgo
        rcases hff with ⟨ef, ev⟩ | ⟨r, g, cap, ef, ev⟩
        all_goals
          rw [ef, ev] at HQ
          rw [ev] at c11
          go_wp2_with (go_at_call 31; go_must (refine HGO.out.mono ?_; rintro e w2 ⟨rfl, rfl⟩))
          try go_quiet (fail)
          try go_wp2_with fail
          ((try simp only [Exit.inBlock, Exit.then]); refine bodyPost_ret (results_tmp2 rfl _ _ _) rfl ?_)
          exact HQ.out.drewN _
      | true =>
        have HST := Lib.hid (step_any (k := k) (by rw [e2]; exact hkl) hv)
        have hn : t.length + 1 - k = (t.length + 1 - (k + 1)) + 1 := by omega
        have HP : Hid (Pk.pike L t w (k + 1) (t.length + 1 - (k + 1)) (lev L t k (fun _ => false) (l ++ if f.isNone then [(0, Pk.blank w)] else [])).2.1 (((lev L t k (fun _ => false) (l ++ if f.isNone then [(0, Pk.blank w)] else [])).2.2).or f) = R) := Lib.hid (by rw [hn] at hP; exact hP)
        have HE : Hid (c.L = L ∧ c.t = t ∧ c.wd = w ∧ W.heap.size ≤ c.b0) := Lib.hid ⟨e1, e2, e3, e4⟩
        clear HEND hGO hP hv hgo hff c11 hn e1 e2 e3 e4
        go_wp2_with first
          | (go_at_call 31; go_must (refine HGO.out.mono ?_; rintro e w2 ⟨rfl, rfl⟩))
          | (go_at_call 32; go_must (refine HST.out.mono ?_; rintro e w2 ⟨rfl, hb2, c2, hv2, f1, f2, f3, f4⟩; have HV2 := Lib.hid hv2; have HF2 := Lib.hid (And.intro f1 (And.intro f2 (And.intro f3 f4))); have HB2 : Hid (Below W.heap.size W w2) := Lib.hid (HB.out.trans (hb2.mono HE.out.2.2.2)); clear hv2 f1 f2 f3 f4 hb2))
        go_roundw
        case rel =>
          refine ⟨k + 1, by go_num, by omega, HB2, Lib.hid ⟨c2, _, _, HV2.out, HF2.out.1.trans HE.out.1, HF2.out.2.1.trans HE.out.2.1, HF2.out.2.2.1.trans HE.out.2.2.1, by rw [HF2.out.2.2.2]; exact HE.out.2.2.2, ?_⟩⟩
          rw [HE.out.1, HE.out.2.1, HE.out.2.2.1]
          exact HP.out
        case measure => simp [intOf]; omega
    · have hkI : ¬ (k : Int) ≤ (t.length : Int) := by omega
      obtain rfl : k = t.length + 1 := by omega
      have hfR : f = R := by
        rw [Nat.sub_self] at hP
        exact hP
      have HQ := Lib.hid (HEND.out f rfl hfR)
      clear HEND hGO hP hv
      rcases hff with ⟨ef, ev⟩ | ⟨r, g, cap, ef, ev⟩
      all_goals
        rw [ef, ev] at HQ
        rw [ev] at c11
        go_wp2_with fail
        try go_quiet (fail)
        try go_wp2_with fail
        ((try simp only [Exit.inBlock, Exit.then]); refine bodyPost_ret (results_tmp2 rfl _ _ _) rfl ?_)
        exact HQ.out.drewN _

theorem find_any {W : World} {A : Option Addr} {cp : Nat} {L : List Rx.In} {t : List UInt8} {G fr : Int} (hp : Rd W (fun _ => True) A (icells L)) (hL : L.length ≤ 4096) (ht : t.length ≤ 1048576) :
    Calls Try.prog 13 #[.agg #[.int .i64 G, .slice A L.length cp], .string ⟨t.toArray⟩, .int .i64 fr] W (Pk.Foundr W (Pk.findP G L t fr)) := by
  unfold Pk.findP
  split
  · rename_i h
    exact find_no h
  · rename_i h
    have h : ¬ fr < 0 ∧ ¬ (t.length : Int) < fr ∧ ¬ G < 0 ∧ ¬ 1024 < G := by simpa using h
    obtain ⟨h1, h2, h3, h4⟩ := h
    have e1 : ((fr.toNat : Nat) : Int) = fr := by omega
    have e2 : ((G.toNat : Nat) : Int) = G := by omega
    have := find_yes (W := W) (A := A) (cp := cp) (L := L) (t := t) (G := G.toNat) (fr := fr.toNat) hp hL ht (by omega) (by omega)
    rw [e1, e2] at this
    exact this

set_option maxHeartbeats 1000000 in
theorem is_any {W : World} {A : Option Addr} {cp : Nat} {L : List Rx.In} {t : List UInt8} {G : Int} (hp : Rd W (fun _ => True) A (icells L)) (hL : L.length ≤ 4096) (ht : t.length ≤ 1048576) :
    Calls Try.prog 17 #[.agg #[.int .i64 G, .slice A L.length cp], .string ⟨t.toArray⟩] W fun e W' => e = .returned (.bool (Pk.findP G L t 0).isSome) ∧ Below W.heap.size W W' := by
  have hb0 : Below W.heap.size W (W.alloc (.cells #[.int .i64 G, .slice A L.length cp] 24)) := (Below.refl _ _).alloc (Nat.le_refl _) _
  have HF : Hid (Calls Try.prog 13 #[.agg #[.int .i64 G, .slice A L.length cp], .string ⟨t.toArray⟩, .int .i64 0] (W.alloc (.cells #[.int .i64 G, .slice A L.length cp] 24)) fun e W' => ∃ v, e = .returned (.tuple #[v, .bool (Pk.findP G L t 0).isSome]) ∧ Below W.heap.size W W') := Lib.hid (by
    refine (find_any (hp.below hb0) hL ht).mono ?_
    rintro e W' ⟨v, b, rfl, hb, hm⟩
    refine ⟨v, ?_, hb0.trans (hb.mono hb0.size)⟩
    revert hm
    cases Pk.findP G L t 0 with
    | none => rintro ⟨_, rfl⟩; rfl
    | some r => rintro ⟨_, rfl, _⟩; rfl)
  generalize (Pk.findP G L t 0).isSome = R at *
  clear hb0
  go_enter Try.func17, Try.ntmps17
  go_wp2_with (go_at_call 13; go_must (refine HF.out.mono ?_; rintro e w1 ⟨v, rfl, hb1⟩; have HB1 := Lib.hid hb1; clear hb1))
  go_ret
  exact ⟨rfl, HB1.out⟩
end Go.Proofs.Ytedppnejkjcplaa
