/-
  PkFind: CONTRACTS: chapter 12: Find, Is (the program's own): for every program and text.
  PkLawA: CHAPTER 12, LAWS: two rows of numbers; a program as the document's.
  Shelf: LAID BY THE SHELF's COMMAND: the library's own contracts of internal/stringslite.Clone, at this seat's numbers.
  PkGrp: CONTRACTS: chapter 12: Group, on both sides.
-/
import Derived.Test.YtelbabgkpflckaaJ25
import Derived.Test.YtelbabgkpflckaaJ6
import Derived.Laws.ResultCell
import Derived.RegionTactic
import Derived.Deep.RegionLaw
import Derived.Shelf.LaysM
import Derived.Shelf.Strconv.Clone
import Derived.Test.YtelbabgkpflckaaProg
import Derived.Test.YtelbabgkpflckaaJ5

set_option linter.unusedSimpArgs false
set_option linter.unusedVariables false
namespace Go.Proofs.Ytelbabgkpflckaa
open Go.RowKit Go.Sort
open Me
open Pk

namespace Pk
/-- What is found. -/
def findP (G : Int) (L : List Rx.In) (t : List UInt8) (fr : Int) : Option Row :=
  if fr < 0 ∨ (t.length : Int) < fr ∨ G < 0 ∨ 1024 < G then none else first L t (2 * G.toNat + 2) fr.toNat (t.length + 1 - fr.toNat)
/-- What Find leaves. -/
def Foundr (W : World) (R : Option Row) (e : Ending) (W' : World) : Prop := ∃ v b, e = .returned (.tuple #[v, .bool b]) ∧ Below W.heap.size W W' ∧ match R with
  | none => v = .slice none 0 0 ∧ b = false
  | some r => W'.ownsRow W.heap.size intT 1 v r.length (iv r) ∧ b = true ∧ 0 < r.length
theorem Foundr.drewN {W W' : World} {R : Option Row} {e : Ending} (h : Foundr W R e W') (n : Nat) : Foundr W R e (W'.drewN n) := by
  obtain ⟨v, b, he, hb, hm⟩ := h
  refine ⟨v, b, he, ⟨hb.os, hb.tape, hb.output, hb.size, hb.block⟩, ?_⟩
  cases R <;> exact hm
end Pk

set_option maxRecDepth 100000 in
set_option maxHeartbeats 8000000 in
theorem find_no {W : World} {A : Option Addr} {cp n : Nat} {t : List UInt8} {G fr : Int} (h : fr < 0 ∨ (t.length : Int) < fr ∨ G < 0 ∨ 1024 < G) :
    Calls Try.prog 9 #[.agg #[.int .i64 G, .slice A n cp], .string ⟨t.toArray⟩, .int .i64 fr] W (Pk.Foundr W none) := by
  have hB : Hid (Below W.heap.size W (W.alloc (.cells #[.int .i64 G, .slice A n cp] 24))) := Lib.hid ((Below.refl _ _).alloc (Nat.le_refl _) _)
  by_cases h1 : fr < 0
  · clear h
    go_enter Try.func9, Try.ntmps9
    go_wp2_with fail
    ((try simp only [Exit.inBlock, Exit.then]); refine bodyPost_ret (results_tmp2 rfl _ _ _) rfl ?_)
    exact ⟨_, _, rfl, hB.out, rfl, rfl⟩
  by_cases h2 : (t.length : Int) < fr
  · clear h
    go_enter Try.func9, Try.ntmps9
    go_wp2_with fail
    ((try simp only [Exit.inBlock, Exit.then]); refine bodyPost_ret (results_tmp2 rfl _ _ _) rfl ?_)
    exact ⟨_, _, rfl, hB.out, rfl, rfl⟩
  by_cases h3 : G < 0
  · clear h
    go_enter Try.func9, Try.ntmps9
    go_wp2_with fail
    ((try simp only [Exit.inBlock, Exit.then]); refine bodyPost_ret (results_tmp2 rfl _ _ _) rfl ?_)
    exact ⟨_, _, rfl, hB.out, rfl, rfl⟩
  · have h4 : 1024 < G := by omega
    clear h
    go_enter Try.func9, Try.ntmps9
    go_wp2_with fail
    ((try simp only [Exit.inBlock, Exit.then]); refine bodyPost_ret (results_tmp2 rfl _ _ _) rfl ?_)
    exact ⟨_, _, rfl, hB.out, rfl, rfl⟩

set_option maxRecDepth 100000 in
set_option maxHeartbeats 8000000 in
theorem find_yes {W : World} {A : Option Addr} {cp : Nat} {L : List Rx.In} {t : List UInt8} {G fr : Nat} (hp : Rd W (fun _ => True) A (icells L)) (hL : L.length ≤ 4096) (ht : t.length ≤ 1048576) (hG : G ≤ 1024) (hfr : fr ≤ t.length) :
    Calls Try.prog 9 #[.agg #[.int .i64 (G : Int), .slice A L.length cp], .string ⟨t.toArray⟩, .int .i64 (fr : Int)] W (Pk.Foundr W (Pk.first L t (2 * G + 2) fr (t.length + 1 - fr))) := by
  have qT : ∀ (w : World) (a : Option Addr) (n c : Nat), (binOp .neq 28 (.slice a n c) (.slice none 0 0)).run Try.prog w = .ok (.bool (!a.isNone)) w := fun w a n c => run_neq_slice_nil w _ _ a n c Try.underlying28
  have h1 : ¬ (fr : Int) < 0 := by omega
  have h2 : ¬ (t.length : Int) < (fr : Int) := by omega
  have h3 : ¬ (G : Int) < 0 := by omega
  have h4 : ¬ (1024 : Int) < (G : Int) := by omega
  have htI : (t.length : Int) ≤ 1048576 := by omega
  obtain ⟨R, hR⟩ : ∃ R, Pk.pike L t (2 * G + 2) fr (t.length + 1 - fr) [] none = R := ⟨_, rfl⟩
  have e : Pk.first L t (2 * G + 2) fr (t.length + 1 - fr) = R := by rw [← hR, pike_first _ _ _ (by omega)]
  rw [e]
  obtain ⟨w, hw⟩ : ∃ w, w = 2 * G + 2 := ⟨_, rfl⟩
  rw [← hw] at hR
  have HB0 : Hid (Below W.heap.size W (W.alloc (.cells #[.int .i64 (G : Int), .slice A L.length cp] 24))) := Lib.hid ((Below.refl _ _).alloc (Nat.le_refl _) _)
  have HNS : Hid (Calls Try.prog 24 #[.agg #[.int .i64 (G : Int), .slice A L.length cp], .string ⟨t.toArray⟩] (W.alloc (.cells #[.int .i64 (G : Int), .slice A L.length cp] 24)) fun e W' => ∃ sb c, e = .returned (.pointer (some ⟨sb, 0, none⟩)) ∧ Below W.heap.size W W' ∧ (∀ k, Pk.Sv c W' sb k [] none) ∧ c.L = L ∧ c.t = t ∧ c.wd = w ∧ W.heap.size ≤ c.b0) := Lib.hid (by
    refine (newSearch_any (hp.below HB0.out) hL ht (by omega)).mono ?_
    rintro e W' ⟨sb, c, he, hb, hv, h1, h2, h3, h4⟩
    exact ⟨sb, c, he, HB0.out.trans (hb.mono HB0.out.size), hv, h1, h2, by rw [h3, hw], by rw [h4]; exact HB0.out.size⟩)
  have HR := Lib.hid hR
  clear hp e hR hw
  go_enter Try.func9, Try.ntmps9
  go_wp2_with (go_at_call 24; go_must (refine HNS.out.mono ?_; rintro e w1 ⟨sb, c0, rfl, hb1, hv1, e1, e2, e3, e4⟩; have HB1 := Lib.hid hb1; have H1 : Hid (∃ c l f, Pk.Sv c w1 sb fr l f ∧ c.L = L ∧ c.t = t ∧ c.wd = w ∧ W.heap.size ≤ c.b0 ∧ Pk.pike L t w fr (t.length + 1 - fr) l f = R) := Lib.hid ⟨c0, [], none, hv1 fr, e1, e2, e3, e4, HR.out⟩; clear hb1 hv1 e1 e2 e3 e4))
  go_loopw [9] (fun x wr => ∃ k : Nat, x = .int .i64 (k : Int) ∧ k ≤ t.length + 1 ∧ Hid (Below W.heap.size W wr) ∧ Hid (∃ c l f, Pk.Sv c wr sb k l f ∧ c.L = L ∧ c.t = t ∧ c.wd = w ∧ W.heap.size ≤ c.b0 ∧ Pk.pike L t w k (t.length + 1 - k) l f = R)) (fun x _ => t.length + 1 - (intOf x).toNat)
  case atStart => exact ⟨fr, rfl, by omega, HB1, H1⟩
  case round =>
    obtain ⟨k, rfl, hk, HB, H2⟩ := hrel
    obtain ⟨c, l, f, hv, e1, e2, e3, e4, hP⟩ := H2.out
    clear H1 H2
    -- what is found in the end
    have HEND : Hid (∀ x, f = x → x = R → Pk.Foundr W R (.returned (.tuple #[c.fv, .bool x.isSome])) wr) := Lib.hid fun x hx hxR => by
      subst hx hxR
      refine ⟨_, _, rfl, HB.out, ?_⟩
      have hf := hv.fnd
      cases f with
      | none => exact ⟨hf.2, rfl⟩
      | some r =>
        have ho := hv.se.ofv
        rw [hf.1] at ho
        have htw := hv.se.tw
        refine ⟨?_, rfl, by rw [hf.2]; omega⟩
        refine ⟨ho.1, ?_⟩
        rcases ho.2 with hn | ⟨g, cap, cur, hv2, hb2, rest⟩
        · exact .inl hn
        · exact .inr ⟨g, cap, cur, hv2, by omega, rest⟩
    have c11 : wr.cell? ⟨sb, 11, none⟩ = some c.fv := (hv.se.cell 11).trans rfl
    have hff : (f = none ∧ c.fv = .slice none 0 0) ∨ ∃ r g cap, f = some r ∧ c.fv = .slice (some ⟨g, 0, none⟩) r.length cap := by
      have hf := hv.fnd
      cases f with
      | none => exact .inl ⟨rfl, hf.2⟩
      | some r =>
        have htw := hv.se.tw
        have ho := hv.se.ofv
        rw [hf.1] at ho
        obtain ⟨g, cap, h, _⟩ := own_some ho (by rw [hf.2]; omega)
        exact .inr ⟨r, g, cap, rfl, h⟩
    have hGO := goesOn_any hv.se (by
      have hf := hv.fnd
      intro h0
      cases f with
      | none => exact hf.2
      | some r =>
        have htw := hv.se.tw
        have := hf.2
        rw [← hf.1, h0] at this
        simp at this
        omega)
    by_cases hkl : k ≤ t.length
    · have hkI : (k : Int) ≤ (t.length : Int) := by omega
      obtain ⟨go, hgo⟩ : ∃ go, (decide (c.fl = []) || !decide (c.nhds = [])) = go := ⟨_, rfl⟩
      rw [hgo] at hGO
      have HGO := Lib.hid hGO
      cases go with
      | false =>
        have hfR : f = R := by
          have h1 : ¬ c.fl = [] ∧ c.nhds = [] := by simpa using hgo
          have hl : l = [] := by
            have h2 := h1.2
            rw [hv.nhds] at h2
            simpa using h2
          have hf := hv.fnd
          cases f with
          | none => exact (h1.1 hf.1).elim
          | some r =>
            subst hl
            rw [← hP, pike_done]
        have HQ := Lib.hid (HEND.out f rfl hfR)
        clear HEND hGO hP hv hgo
        rcases hff with ⟨ef, ev⟩ | ⟨r, g, cap, ef, ev⟩
        all_goals
          rw [ef, ev] at HQ
          rw [ev] at c11
          go_wp2_with (go_at_call 25; go_must (refine HGO.out.mono ?_; rintro e w2 ⟨rfl, rfl⟩))
          try go_quiet (fail)
          try go_wp2_with fail
          ((try simp only [Exit.inBlock, Exit.then]); refine bodyPost_ret (results_tmp2 rfl _ _ _) rfl ?_)
          exact HQ.out.drewN _
      | true =>
        have HST := Lib.hid (step_any (k := k) (by rw [e2]; exact hkl) hv)
        have hn : t.length + 1 - k = (t.length + 1 - (k + 1)) + 1 := by omega
        have HP : Hid (Pk.pike L t w (k + 1) (t.length + 1 - (k + 1)) (lev L t k (fun _ => false) (l ++ if f.isNone then [(0, Pk.blank w)] else [])).2.1 (((lev L t k (fun _ => false) (l ++ if f.isNone then [(0, Pk.blank w)] else [])).2.2).or f) = R) := Lib.hid (by rw [hn] at hP; exact hP)
        have HE : Hid (c.L = L ∧ c.t = t ∧ c.wd = w ∧ W.heap.size ≤ c.b0) := Lib.hid ⟨e1, e2, e3, e4⟩
        clear HEND hGO hP hv hgo hff c11 hn e1 e2 e3 e4
        go_wp2_with first
          | (go_at_call 25; go_must (refine HGO.out.mono ?_; rintro e w2 ⟨rfl, rfl⟩))
          | (go_at_call 26; go_must (refine HST.out.mono ?_; rintro e w2 ⟨rfl, hb2, c2, hv2, f1, f2, f3, f4⟩; have HV2 := Lib.hid hv2; have HF2 := Lib.hid (And.intro f1 (And.intro f2 (And.intro f3 f4))); have HB2 : Hid (Below W.heap.size W w2) := Lib.hid (HB.out.trans (hb2.mono HE.out.2.2.2)); clear hv2 f1 f2 f3 f4 hb2))
        go_roundw
        case rel =>
          refine ⟨k + 1, by go_num, by omega, HB2, Lib.hid ⟨c2, _, _, HV2.out, HF2.out.1.trans HE.out.1, HF2.out.2.1.trans HE.out.2.1, HF2.out.2.2.1.trans HE.out.2.2.1, by rw [HF2.out.2.2.2]; exact HE.out.2.2.2, ?_⟩⟩
          rw [HE.out.1, HE.out.2.1, HE.out.2.2.1]
          exact HP.out
        case measure => simp [intOf]; omega
    · have hkI : ¬ (k : Int) ≤ (t.length : Int) := by omega
      obtain rfl : k = t.length + 1 := by omega
      have hfR : f = R := by
        rw [Nat.sub_self] at hP
        exact hP
      have HQ := Lib.hid (HEND.out f rfl hfR)
      clear HEND hGO hP hv
      rcases hff with ⟨ef, ev⟩ | ⟨r, g, cap, ef, ev⟩
      all_goals
        rw [ef, ev] at HQ
        rw [ev] at c11
        go_wp2_with fail
        try go_quiet (fail)
        try go_wp2_with fail
        ((try simp only [Exit.inBlock, Exit.then]); refine bodyPost_ret (results_tmp2 rfl _ _ _) rfl ?_)
        exact HQ.out.drewN _

theorem find_any {W : World} {A : Option Addr} {cp : Nat} {L : List Rx.In} {t : List UInt8} {G fr : Int} (hp : Rd W (fun _ => True) A (icells L)) (hL : L.length ≤ 4096) (ht : t.length ≤ 1048576) :
    Calls Try.prog 9 #[.agg #[.int .i64 G, .slice A L.length cp], .string ⟨t.toArray⟩, .int .i64 fr] W (Pk.Foundr W (Pk.findP G L t fr)) := by
  unfold Pk.findP
  split
  · rename_i h
    exact find_no h
  · rename_i h
    have h : ¬ fr < 0 ∧ ¬ (t.length : Int) < fr ∧ ¬ G < 0 ∧ ¬ 1024 < G := by simpa using h
    obtain ⟨h1, h2, h3, h4⟩ := h
    have e1 : ((fr.toNat : Nat) : Int) = fr := by omega
    have e2 : ((G.toNat : Nat) : Int) = G := by omega
    have := find_yes (W := W) (A := A) (cp := cp) (L := L) (t := t) (G := G.toNat) (fr := fr.toNat) hp hL ht (by omega) (by omega)
    rw [e1, e2] at this
    exact this

set_option maxHeartbeats 1000000 in
theorem is_any {W : World} {A : Option Addr} {cp : Nat} {L : List Rx.In} {t : List UInt8} {G : Int} (hp : Rd W (fun _ => True) A (icells L)) (hL : L.length ≤ 4096) (ht : t.length ≤ 1048576) :
    Calls Try.prog 13 #[.agg #[.int .i64 G, .slice A L.length cp], .string ⟨t.toArray⟩] W fun e W' => e = .returned (.bool (Pk.findP G L t 0).isSome) ∧ Below W.heap.size W W' := by
  have hb0 : Below W.heap.size W (W.alloc (.cells #[.int .i64 G, .slice A L.length cp] 24)) := (Below.refl _ _).alloc (Nat.le_refl _) _
  have HF : Hid (Calls Try.prog 9 #[.agg #[.int .i64 G, .slice A L.length cp], .string ⟨t.toArray⟩, .int .i64 0] (W.alloc (.cells #[.int .i64 G, .slice A L.length cp] 24)) fun e W' => ∃ v, e = .returned (.tuple #[v, .bool (Pk.findP G L t 0).isSome]) ∧ Below W.heap.size W W') := Lib.hid (by
    refine (find_any (hp.below hb0) hL ht).mono ?_
    rintro e W' ⟨v, b, rfl, hb, hm⟩
    refine ⟨v, ?_, hb0.trans (hb.mono hb0.size)⟩
    revert hm
    cases Pk.findP G L t 0 with
    | none => rintro ⟨_, rfl⟩; rfl
    | some r => rintro ⟨_, rfl, _⟩; rfl)
  generalize (Pk.findP G L t 0).isSome = R at *
  clear hb0
  go_enter Try.func13, Try.ntmps13
  go_wp2_with (go_at_call 9; go_must (refine HF.out.mono ?_; rintro e w1 ⟨v, rfl, hb1⟩; have HB1 := Lib.hid hb1; clear hb1))
  go_ret
  exact ⟨rfl, HB1.out⟩
end Go.Proofs.Ytelbabgkpflckaa

namespace Go.Proofs.Ytelbabgkpflckaa
open Go.RowKit Go.Sort
open Me
open Pk

set_option maxRecDepth 100000 in
set_option maxHeartbeats 2000000 in
theorem numbers_any {W : World} {G1 G2 : Nat → Prop} {A1 A2 : Option Addr} {c1 c2 : Nat} {l1 l2 : List Int} (h1 : Rd W G1 A1 (iv l1)) (h2 : Rd W G2 A2 (iv l2)) (hl : l1.length ≤ 1048576) :
    Calls Try.prog 12 #[.slice A1 l1.length c1, .slice A2 l2.length c2] W fun e W' => e = .returned (.bool (decide (l1 = l2))) ∧ Below W.heap.size W W' := by
  obtain ⟨R, hR⟩ : ∃ R, decide (l1 = l2) = R := ⟨_, rfl⟩
  rw [hR]
  by_cases hlen : l1.length = l2.length
  · have HE : Hid (∀ k, l1.getD k 0 ≠ l2.getD k 0 → false = R) := Lib.hid fun k hne => by
      rw [← hR]
      refine (decide_eq_false fun e => hne ?_).symm
      rw [e]
    have HT : Hid ((∀ k, k < l1.length → l1.getD k 0 = l2.getD k 0) → true = R) := Lib.hid fun h => by
      rw [← hR]
      refine (decide_eq_true (List.ext_getElem hlen fun k h1 h2 => ?_)).symm
      have := h k h1
      rwa [List.getD_eq_getElem?_getD, List.getD_eq_getElem?_getD, List.getElem?_eq_getElem h1, List.getElem?_eq_getElem h2] at this
    have HL := Lib.hid hlen
    have hlI : (l1.length : Int) = (l2.length : Int) := by omega
    have H1 := Lib.hid h1
    have H2 := Lib.hid h2
    obtain ⟨n, hn⟩ : ∃ n, n = l1.length := ⟨_, rfl⟩
    have HN := Lib.hid hn
    rw [← hlen, ← hn]
    have hnb : n ≤ 1048576 := by omega
    clear hR h1 h2 hlI hlen hn hl
    go_enter Try.func12, Try.ntmps12
    go_wp2_with fail
    go_loopw [5] (fun x wr => ∃ k : Nat, x = .int .i64 (k : Int) ∧ k ≤ n ∧ Hid (Below W.heap.size W wr) ∧ Hid (∀ i, i < k → l1.getD i 0 = l2.getD i 0)) (fun x _ => n - (intOf x).toNat)
    case atStart => exact ⟨0, rfl, Nat.zero_le _, Lib.hid (Below.refl _ _), Lib.hid fun i h0 => absurd h0 (Nat.not_lt_zero _)⟩
    case round =>
      obtain ⟨k, rfl, hk, HB, HA⟩ := hrel
      by_cases hlt : k < n
      · have hltI : (k : Int) < (n : Int) := by omega
        have hk1 : k < l1.length := by rw [← HN.out]; exact hlt
        have hk2 : k < l2.length := by rw [← HL.out]; exact hk1
        obtain ⟨b1, o1, rfl, hb1, _, q1⟩ := (H1.out.below HB.out).lit k (by rw [iv_len]; exact hk1)
        obtain ⟨b2, o2, rfl, hb2, _, q2⟩ := (H2.out.below HB.out).lit k (by rw [iv_len]; exact hk2)
        have r1 := q1 k _ (iv_get l1 k hk1)
        have r2 := q2 k _ (iv_get l2 k hk2)
        obtain ⟨x1, hx1⟩ : ∃ x, l1[k] = x := ⟨_, rfl⟩
        obtain ⟨x2, hx2⟩ : ∃ x, l2[k] = x := ⟨_, rfl⟩
        rw [hx1] at r1
        rw [hx2] at r2
        have HX1 : Hid (l1.getD k 0 = x1) := Lib.hid (by rw [List.getD_eq_getElem?_getD, List.getElem?_eq_getElem hk1, hx1]; rfl)
        have HX2 : Hid (l2.getD k 0 = x2) := Lib.hid (by rw [List.getD_eq_getElem?_getD, List.getElem?_eq_getElem hk2, hx2]; rfl)
        have hkI : (0 : Int) ≤ (k : Int) := by omega
        clear q1 q2 hx1 hx2
        by_cases he : x1 = x2
        · have hne : (x1 != x2) = false := by simp [he]
          have HA2 : Hid (∀ i, i < k + 1 → l1.getD i 0 = l2.getD i 0) := Lib.hid fun i hi => by
            by_cases e : i = k
            · subst e
              rw [HX1.out, HX2.out, he]
            · exact HA.out i (by omega)
          subst he
          clear hne
          go_wp2_with fail
          go_region_law (fail)
          all_goals
            try go_simp
            go_wp2_with fail
            go_roundw
            case rel => exact ⟨k + 1, by go_num, by omega, Lib.hid HB.out.drew, HA2⟩
            case measure => simp [intOf]; omega
        · have HQ : Hid (false = R) := Lib.hid (HE.out k (by rw [HX1.out, HX2.out]; exact he))
          have hne : (x1 != x2) = true := by simpa using he
          go_wp2_with fail
          go_region_law (fail)
          all_goals
            try go_simp
            try go_wp2_with fail
            go_ret
            exact ⟨by rw [← HQ.out]; rfl, HB.out.drew⟩
      · have hltI : ¬ (k : Int) < (n : Int) := by omega
        have HQ : Hid (true = R) := Lib.hid (HT.out fun i h => HA.out i (by have := HN.out; omega))
        go_wp2_with fail
        go_ret
        exact ⟨by rw [← HQ.out]; rfl, HB.out⟩
  · have hlI : ¬ (l1.length : Int) = (l2.length : Int) := by omega
    have HQ : Hid (false = R) := Lib.hid (by rw [← hR]; exact (decide_eq_false fun e => hlen (by rw [e])).symm)
    clear hR h1 h2
    go_enter Try.func12, Try.ntmps12
    go_wp2_with fail
    go_ret
    exact ⟨by rw [← HQ.out]; rfl, Below.refl _ _⟩
end Go.Proofs.Ytelbabgkpflckaa

namespace Go.Proofs
open Go.Shelf
def Try.laysM316_ren : Go.Shelf.Ren := ⟨fun | 316 => 66 | n => n, fun | 9 => 9 | 3 => 3 | 4 => 4 | 37 => 69 | 0 => 0 | 127 => 98 | 5 => 5 | n => n, fun | n => n⟩
theorem Try.laysM316 : Go.Proofs.LaysM.n316 Try.prog Try.laysM316_ren := {
  mixed := by kernel_rfl
  f316 := Try.func66.trans (congrArg some (by kernel_rfl))
  t0 := Try.underlying0
  a0 := Try.isAgg0
  z0 := Try.sizeOf0
  v0 := Try.zeroValue0
  t3 := Try.underlying3
  a3 := Try.isAgg3
  z3 := Try.sizeOf3
  v3 := Try.zeroValue3
  t4 := Try.underlying4
  a4 := Try.isAgg4
  z4 := Try.sizeOf4
  v4 := Try.zeroValue4
  t9 := Try.underlying9
  a9 := Try.isAgg9
  z9 := Try.sizeOf9
  v9 := Try.zeroValue9
  t37 := Try.underlying69
  a37 := Try.isAgg69
  z37 := Try.sizeOf69
  v37 := Try.zeroValue69
  t127 := Try.underlying98
  a127 := Try.isAgg98
  z127 := Try.sizeOf98
  v127 := Try.zeroValue98
  t5 := Try.underlying5
  a5 := Try.isAgg5
  z5 := Try.sizeOf5
  v5 := Try.zeroValue5
  i0 := by kernel_rfl
  i3 := by kernel_rfl
  i4 := by kernel_rfl
  i5 := by kernel_rfl
  i9 := by kernel_rfl
  i37 := by kernel_rfl
  i127 := by kernel_rfl }
open Go.RowKit in
theorem Try.stringslite_Clone (s : ByteArray) (w : World) (hlim : s.size ≤ 281474976710656) :
    Calls Try.prog 66 #[.string s] w fun e w' => e = .returned (.string s) ∧ Below w.heap.size w w' := Any.stringslite_Clone Try.laysM316 s w hlim
end Go.Proofs

namespace Go.Proofs.Ytelbabgkpflckaa
open Go.RowKit Go.Sort
open Me
open Pk

namespace Pk
/-- What a group has. -/
def grp (t : List UInt8) (pl : List Int) (k : Int) : List UInt8 :=
  if k < 0 ∨ (pl.length : Int) ≤ 2 * k + 1 then [] else
    if pl.getD (2 * k.toNat) 0 < 0 ∨ pl.getD (2 * k.toNat + 1) 0 < pl.getD (2 * k.toNat) 0 ∨ (t.length : Int) < pl.getD (2 * k.toNat + 1) 0 then [] else
      (t.drop (pl.getD (2 * k.toNat) 0).toNat).take ((pl.getD (2 * k.toNat + 1) 0).toNat - (pl.getD (2 * k.toNat) 0).toNat)
theorem extr (t : List UInt8) (a b : Nat) : (⟨t.toArray⟩ : ByteArray).extract a b = ⟨((t.drop a).take (b - a)).toArray⟩ := by
  apply ByteArray.ext
  rw [ByteArray.data_extract]
  simp [List.take_drop]
  try omega
end Pk

theorem pkClone_any (n : List UInt8) (w : World) (hn : n.length ≤ 1048576) :
    Calls Try.prog 56 #[.string ⟨n.toArray⟩] w fun e w' => e = .returned (.string ⟨n.toArray⟩) ∧ Below w.heap.size w w' := by
  have HC := Lib.hid (Try.stringslite_Clone ⟨n.toArray⟩ w (by show n.toArray.size ≤ _; simp; omega))
  go_enter Try.func56, Try.ntmps56
  go_wp2_with (go_at_call 66; ((with_reducible refine (HC.out).mono ?_); rintro e w' ⟨rfl, hb⟩))
  go_ret
  exact ⟨rfl, hb⟩

set_option maxRecDepth 100000 in
set_option maxHeartbeats 4000000 in
theorem refGroup_any {W : World} {G : Nat → Prop} {A : Option Addr} {cp : Nat} {t : List UInt8} {pl : List Int} {k : Int} (hr : Rd W G A (iv pl)) (ht : t.length ≤ 1048576) (hp : pl.length ≤ 1048576) (hk : -9223372036854775808 ≤ k ∧ k ≤ 9223372036854775807) :
    Calls Try.prog 31 #[.string ⟨t.toArray⟩, .slice A pl.length cp, .int .i64 k] W fun e W' => e = .returned (.string ⟨(Pk.grp t pl k).toArray⟩) ∧ Below W.heap.size W W' := by
  obtain ⟨R, hR⟩ : ∃ R, Pk.grp t pl k = R := ⟨_, rfl⟩
  rw [hR]
  unfold Pk.grp at hR
  by_cases h0 : k < 0
  · rw [if_pos (.inl h0)] at hR
    subst hR
    go_enter Try.func31, Try.ntmps31
    go_wp2_with fail
    go_ret
    exact ⟨rfl, Below.refl _ _⟩
  by_cases h1 : 1073741824 < k
  · rw [if_pos (.inr (by omega))] at hR
    subst hR
    go_enter Try.func31, Try.ntmps31
    go_wp2_with fail
    go_ret
    exact ⟨rfl, Below.refl _ _⟩
  have hw1 : IntKind.i64.wrap (2 * k) = 2 * k := by rw [IntKind.wrap_i64]; omega
  have hw2 : IntKind.i64.wrap (2 * k + 1) = 2 * k + 1 := by rw [IntKind.wrap_i64]; omega
  by_cases h2 : (pl.length : Int) ≤ 2 * k + 1
  · rw [if_pos (.inr h2)] at hR
    subst hR
    go_enter Try.func31, Try.ntmps31
    go_wp2_with fail
    go_ret
    exact ⟨rfl, Below.refl _ _⟩
  rw [if_neg (by omega)] at hR
  obtain ⟨p, rfl⟩ : ∃ p : Nat, k = (p : Int) := ⟨k.toNat, by omega⟩
  rw [Int.toNat_natCast] at hR
  have hp1 : 2 * p + 1 < pl.length := by omega
  have hp1I : 2 * (p : Int) + 1 < (pl.length : Int) := by omega
  have hp0I : 2 * (p : Int) < (pl.length : Int) := by omega
  have hpI : (0 : Int) ≤ 2 * (p : Int) := by omega
  have hpI2 : (0 : Int) ≤ 2 * (p : Int) + 1 := by omega
  obtain ⟨b, o, rfl, hb, _, hq⟩ := hr.lit (2 * p) (by rw [iv_len]; omega)
  obtain ⟨x, hx⟩ : ∃ x, pl.getD (2 * p) 0 = x := ⟨_, rfl⟩
  obtain ⟨y, hy⟩ : ∃ y, pl.getD (2 * p + 1) 0 = y := ⟨_, rfl⟩
  have r1 : W.cell? ⟨b, o + (2 * (p : Int)).toNat, none⟩ = some (.int .i64 x) := by
    rw [show (2 * (p : Int)).toNat = 2 * p by omega]
    refine hq (2 * p) _ ?_
    rw [iv_get pl (2 * p) (by omega), ← hx, List.getD_eq_getElem?_getD, List.getElem?_eq_getElem (by omega : 2 * p < pl.length)]
    rfl
  have r2 : W.cell? ⟨b, o + (2 * (p : Int) + 1).toNat, none⟩ = some (.int .i64 y) := by
    rw [show (2 * (p : Int) + 1).toNat = 2 * p + 1 by omega]
    refine hq (2 * p + 1) _ ?_
    rw [iv_get pl (2 * p + 1) hp1, ← hy, List.getD_eq_getElem?_getD, List.getElem?_eq_getElem hp1]
    rfl
  rw [hx, hy] at hR
  clear hq hx hy hr
  by_cases h3 : x < 0
  · rw [if_pos (.inl h3)] at hR
    subst hR
    go_enter Try.func31, Try.ntmps31
    go_wp2_with fail
    go_quiet (fail)
    go_wp2_with fail
    go_ret
    exact ⟨rfl, rfl, rfl, rfl, Nat.le_refl _, fun _ _ => rfl⟩
  by_cases h4 : y < x
  · rw [if_pos (.inr (.inl h4))] at hR
    subst hR
    go_enter Try.func31, Try.ntmps31
    go_wp2_with fail
    go_quiet (fail)
    go_wp2_with fail
    go_ret
    exact ⟨rfl, rfl, rfl, rfl, Nat.le_refl _, fun _ _ => rfl⟩
  by_cases h5 : (t.length : Int) < y
  · rw [if_pos (.inr (.inr h5))] at hR
    subst hR
    go_enter Try.func31, Try.ntmps31
    go_wp2_with fail
    go_quiet (fail)
    go_wp2_with fail
    go_ret
    exact ⟨rfl, rfl, rfl, rfl, Nat.le_refl _, fun _ _ => rfl⟩
  rw [if_neg (by omega)] at hR
  obtain ⟨u, rfl⟩ : ∃ u : Nat, x = (u : Int) := ⟨x.toNat, by omega⟩
  obtain ⟨v, rfl⟩ : ∃ v : Nat, y = (v : Int) := ⟨y.toNat, by omega⟩
  rw [Int.toNat_natCast, Int.toNat_natCast] at hR
  have huv : u ≤ v := by omega
  have hvt : v ≤ t.length := by omega
  have huI : (0 : Int) ≤ (u : Int) := by omega
  have huvI : (u : Int) ≤ (v : Int) := by omega
  have hvtI : (v : Int) ≤ (t.length : Int) := by omega
  have hex : (⟨t.toArray⟩ : ByteArray).extract u v = ⟨R.toArray⟩ := by rw [Pk.extr, hR]
  clear hR
  go_enter Try.func31, Try.ntmps31
  go_wp2_with fail
  go_quiet (fail)
  go_wp2_with fail
  go_ret
  exact ⟨rfl, rfl, rfl, rfl, Nat.le_refl _, fun _ _ => rfl⟩

set_option maxRecDepth 100000 in
set_option maxHeartbeats 4000000 in
theorem group_any {W : World} {G : Nat → Prop} {A : Option Addr} {cp : Nat} {t : List UInt8} {pl : List Int} {k : Int} (hr : Rd W G A (iv pl)) (ht : t.length ≤ 1048576) (hp : pl.length ≤ 1048576) (hk : -9223372036854775808 ≤ k ∧ k ≤ 9223372036854775807) :
    Calls Try.prog 46 #[.string ⟨t.toArray⟩, .slice A pl.length cp, .int .i64 k] W fun e W' => e = .returned (.string ⟨(Pk.grp t pl k).toArray⟩) ∧ Below W.heap.size W W' := by
  obtain ⟨R, hR⟩ : ∃ R, Pk.grp t pl k = R := ⟨_, rfl⟩
  rw [hR]
  unfold Pk.grp at hR
  by_cases h0 : k < 0
  · rw [if_pos (.inl h0)] at hR
    subst hR
    go_enter Try.func46, Try.ntmps46
    go_wp2_with fail
    go_ret
    exact ⟨rfl, Below.refl _ _⟩
  obtain ⟨hf, hff⟩ : ∃ hf : Nat, hf = pl.length / 2 := ⟨_, rfl⟩
  have hdv : (pl.length : Int) / 2 = (hf : Int) := by omega
  have hf1 : 2 * hf ≤ pl.length := by omega
  have hf2 : pl.length < 2 * hf + 2 := by omega
  clear hff
  by_cases h2 : (pl.length : Int) ≤ 2 * k + 1
  · have h2d : (hf : Int) ≤ k := by omega
    rw [if_pos (.inr h2)] at hR
    subst hR
    go_enter Try.func46, Try.ntmps46
    go_wp2_with fail
    go_ret
    exact ⟨rfl, Below.refl _ _⟩
  rw [if_neg (by omega)] at hR
  have h2d : k < (hf : Int) := by omega
  have hw1 : IntKind.i64.wrap (2 * k) = 2 * k := by rw [IntKind.wrap_i64]; omega
  have hw2 : IntKind.i64.wrap (2 * k + 1) = 2 * k + 1 := by rw [IntKind.wrap_i64]; omega
  obtain ⟨p, rfl⟩ : ∃ p : Nat, k = (p : Int) := ⟨k.toNat, by omega⟩
  rw [Int.toNat_natCast] at hR
  have hp1 : 2 * p + 1 < pl.length := by omega
  have hp1I : 2 * (p : Int) + 1 < (pl.length : Int) := by omega
  have hp0I : 2 * (p : Int) < (pl.length : Int) := by omega
  have hpI : (0 : Int) ≤ 2 * (p : Int) := by omega
  have hpI2 : (0 : Int) ≤ 2 * (p : Int) + 1 := by omega
  obtain ⟨b, o, rfl, hb, _, hq⟩ := hr.lit (2 * p) (by rw [iv_len]; omega)
  obtain ⟨x, hx⟩ : ∃ x, pl.getD (2 * p) 0 = x := ⟨_, rfl⟩
  obtain ⟨y, hy⟩ : ∃ y, pl.getD (2 * p + 1) 0 = y := ⟨_, rfl⟩
  have r1 : W.cell? ⟨b, o + (2 * (p : Int)).toNat, none⟩ = some (.int .i64 x) := by
    rw [show (2 * (p : Int)).toNat = 2 * p by omega]
    refine hq (2 * p) _ ?_
    rw [iv_get pl (2 * p) (by omega), ← hx, List.getD_eq_getElem?_getD, List.getElem?_eq_getElem (by omega : 2 * p < pl.length)]
    rfl
  have r2 : W.cell? ⟨b, o + (2 * (p : Int) + 1).toNat, none⟩ = some (.int .i64 y) := by
    rw [show (2 * (p : Int) + 1).toNat = 2 * p + 1 by omega]
    refine hq (2 * p + 1) _ ?_
    rw [iv_get pl (2 * p + 1) hp1, ← hy, List.getD_eq_getElem?_getD, List.getElem?_eq_getElem hp1]
    rfl
  rw [hx, hy] at hR
  clear hq hx hy hr
  by_cases h3 : x < 0
  · rw [if_pos (.inl h3)] at hR
    subst hR
    go_enter Try.func46, Try.ntmps46
    go_wp2_with fail
    go_quiet (fail)
    go_wp2_with fail
    go_ret
    exact ⟨rfl, rfl, rfl, rfl, Nat.le_refl _, fun _ _ => rfl⟩
  by_cases h4 : y < x
  · rw [if_pos (.inr (.inl h4))] at hR
    subst hR
    go_enter Try.func46, Try.ntmps46
    go_wp2_with fail
    go_quiet (fail)
    go_wp2_with fail
    go_ret
    exact ⟨rfl, rfl, rfl, rfl, Nat.le_refl _, fun _ _ => rfl⟩
  by_cases h5 : (t.length : Int) < y
  · rw [if_pos (.inr (.inr h5))] at hR
    subst hR
    go_enter Try.func46, Try.ntmps46
    go_wp2_with fail
    go_quiet (fail)
    go_wp2_with fail
    go_ret
    exact ⟨rfl, rfl, rfl, rfl, Nat.le_refl _, fun _ _ => rfl⟩
  rw [if_neg (by omega)] at hR
  obtain ⟨u, rfl⟩ : ∃ u : Nat, x = (u : Int) := ⟨x.toNat, by omega⟩
  obtain ⟨v, rfl⟩ : ∃ v : Nat, y = (v : Int) := ⟨y.toNat, by omega⟩
  rw [Int.toNat_natCast, Int.toNat_natCast] at hR
  have huv : u ≤ v := by omega
  have hvt : v ≤ t.length := by omega
  have huI : (0 : Int) ≤ (u : Int) := by omega
  have huvI : (u : Int) ≤ (v : Int) := by omega
  have hvtI : (v : Int) ≤ (t.length : Int) := by omega
  have hex : (⟨t.toArray⟩ : ByteArray).extract u v = ⟨R.toArray⟩ := by rw [Pk.extr, hR]
  have hRl : R.length ≤ 1048576 := by rw [← hR, List.length_take, List.length_drop]; omega
  have HC := Lib.hid (fun W => pkClone_any R W hRl)
  clear hR
  go_enter Try.func46, Try.ntmps46
  go_wp2_with fail
  go_quiet (fail)
  go_wp2_with (go_at_call 56; go_must (refine (HC.out _).mono ?_; rintro e w1 ⟨rfl, hb1⟩; have HB1 := Lib.hid hb1; clear hb1))
  go_ret
  exact ⟨rfl, Below.trans (b := W.drewN _) ⟨rfl, rfl, rfl, Nat.le_refl _, fun _ _ => rfl⟩ HB1.out⟩
end Go.Proofs.Ytelbabgkpflckaa
