/-
  GlMat: CONTRACTS: chapter 9, the program's takes, Match, Parts, Plain, isResult.
-/
import Derived.Test.YtfmbbhcjnidcbaaGreatDoorJ28

namespace Go.Proofs.YtfmbbhcjnidcbaaGreatDoor
open Go.RowKit
open Me

namespace Gl
theorem head42 (p : List UInt8) : Lib.hasPrefix p [42] = (match p with | [] => false | b :: _ => decide (b = 42)) := by
  cases p with
  | nil => rfl
  | cons b r =>
    show ((42 : UInt8) == b && List.isPrefixOf [] r) = decide (b = 42)
    rw [List.isPrefixOf_nil_left, Bool.and_true]
    by_cases h : b = 42
    · subst h; rfl
    · rw [decide_eq_false h]
      exact beq_eq_false_iff_ne.2 fun e => h e.symm
theorem all_rev (l : List UInt8) (f : UInt8 → Bool) : l.reverse.all f = l.all f := by simp
theorem dropWhile_all (l : List UInt8) (f : UInt8 → Bool) : (l.dropWhile f).isEmpty = l.all f := by
  induction l with
  | nil => rfl
  | cons b r ih =>
    rw [List.dropWhile_cons, List.all_cons]
    cases h : f b
    · rfl
    · simpa using ih
theorem trim_stars (l : List UInt8) : (Lib.trimB l 42).isEmpty = l.all (· == 42) := by
  unfold Lib.trimB Lib.trimLeftB Lib.trimRightB
  rw [dropWhile_all]
  cases h : l.all (· == 42)
  · rw [List.all_reverse]
    have h1 := dropWhile_all l.reverse (· == 42)
    rw [List.all_reverse, h] at h1
    cases hd : l.reverse.dropWhile (· == 42) with
    | nil => rw [hd] at h1; cases h1
    | cons b r =>
      have h2 : (b == 42) = false := by
        cases hb : (b == (42 : UInt8)) with
        | false => rfl
        | true =>
          have := List.head?_dropWhile_not (· == (42 : UInt8)) l.reverse
          rw [hd] at this
          simp at this
          simp at hb
          exact absurd hb this
      rw [List.all_cons, h2]; rfl
  · rw [List.all_reverse]
    rw [List.all_eq_true] at h ⊢
    intro x hx
    have : x ∈ l.reverse := (List.dropWhile_sublist _).subset hx
    exact h x (by simpa using this)

/-- Where the walk stands. -/
def MInv (R : Bool) (sb : Bool) (qq ll pp tt : List UInt8) : Prop :=
  ∃ ps, toks none pp = some ps ∧ (sb = false → Inv R none ps tt) ∧ (sb = true → ∃ q, toks none qq = some q ∧ Inv R (some (q, ll)) ps tt)
theorem MInv.start {p s : List UInt8} (h : simple p = true) : MInv (gm p s) false [] [] p s := by
  unfold simple at h
  obtain ⟨ps, hps⟩ := Option.isSome_iff_exists.1 h
  refine ⟨ps, hps, fun _ => ?_, (fun h => by cases h)⟩
  unfold gm; rw [hps]; rfl
theorem MInv.star {R sb : Bool} {qq ll r tt : List UInt8} (h : MInv R sb qq ll (42 :: r) tt) : MInv R true r tt r tt := by
  obtain ⟨ps, hps, h1, h2⟩ := h
  rcases toks_first hps with ⟨_, p', rfl, h3⟩ | ⟨h0, _⟩ | ⟨h0, _⟩ | ⟨h0, _⟩
  · refine ⟨p', h3, (fun h => by cases h), fun _ => ⟨p', h3, ?_⟩⟩
    cases sb with
    | false => exact (h1 rfl).star
    | true =>
      obtain ⟨q, _, hi⟩ := h2 rfl
      exact hi.star
  · cases h0
  · cases h0
  · exact absurd rfl h0
/-- The element that takes tells of. -/
theorem take_first {pp : List UInt8} {ps : List El} (h : toks none pp = some ps) (h42 : Lib.hasPrefix pp [42] = false) (c : UInt8) :
    (ps = [] ∧ tkO c pp = false) ∨ ∃ e p', ps = e :: p' ∧ isStar e = false ∧ tkO c pp = one c e ∧ toks none (tkR pp) = some p' := by
  cases pp with
  | nil => exact .inl ⟨toks_empty h, rfl⟩
  | cons b r =>
    rw [head42] at h42
    have hb : b ≠ 42 := of_decide_eq_false h42
    right
    rcases toks_first h with ⟨h0, _⟩ | ⟨rfl, p', rfl, h3⟩ | ⟨rfl, h2, p', rfl, h3⟩ | ⟨h0, h1, h2, p', rfl, h3⟩
    · exact absurd h0 hb
    · exact ⟨_, p', rfl, rfl, rfl, h3⟩
    · refine ⟨_, p', rfl, rfl, ?_, ?_⟩
      · show (if (91 : UInt8) = 63 then true else if (91 : UInt8) = 91 then inR c (cA r) else decide ((91 : UInt8) = c)) = inR c (ah r)
        rw [if_neg (by decide), if_pos rfl]; unfold cA; rw [h2]; rfl
      · show toks none (if (91 : UInt8) = 91 then cB r else r) = _
        rw [if_pos rfl]; unfold cB; rw [h2]; exact h3
    · refine ⟨_, p', rfl, rfl, ?_, ?_⟩
      · show (if b = 63 then true else if b = 91 then inR c (cA r) else decide (b = c)) = decide (b = c)
        rw [if_neg h1, if_neg h2]
      · show toks none (if b = 91 then cB r else r) = _
        rw [if_neg h2]; exact h3
theorem MInv.take {R sb : Bool} {qq ll pp : List UInt8} {c : UInt8} {t : List UInt8} (h : MInv R sb qq ll pp (c :: t)) (h42 : Lib.hasPrefix pp [42] = false) (ho : tkO c pp = true) : MInv R sb qq ll (tkR pp) t := by
  obtain ⟨ps, hps, h1, h2⟩ := h
  rcases take_first hps h42 c with ⟨_, h3⟩ | ⟨e, p', rfl, he, h3, h4⟩
  · rw [h3] at ho; cases ho
  · rw [h3] at ho
    refine ⟨p', h4, fun hf => (h1 hf).take he ho, fun ht => ?_⟩
    obtain ⟨q, hq, hi⟩ := h2 ht
    exact ⟨q, hq, hi.take he ho⟩
theorem stuck_of {pp : List UInt8} {ps : List El} (h : toks none pp = some ps) (h42 : Lib.hasPrefix pp [42] = false) {c : UInt8} (ho : tkO c pp = false) (t : List UInt8) : mt ps (c :: t) = false := by
  rcases take_first h h42 c with ⟨h3, _⟩ | ⟨e, p', h3, he, h4, _⟩
  · exact mt_stuck (.inl h3)
  · exact mt_stuck (.inr ⟨e, p', h3, he, by rw [← h4]; exact ho⟩)
theorem MInv.stuck {R : Bool} {qq ll pp : List UInt8} {c : UInt8} {t : List UInt8} (h : MInv R false qq ll pp (c :: t)) (h42 : Lib.hasPrefix pp [42] = false) (ho : tkO c pp = false) : false = R := by
  obtain ⟨ps, hps, h1, _⟩ := h
  exact ((h1 rfl).stuck (stuck_of hps h42 ho t)).symm
theorem MInv.back {R : Bool} {qq ll pp : List UInt8} {c : UInt8} {t : List UInt8} (h : MInv R true qq ll pp (c :: t)) (h42 : Lib.hasPrefix pp [42] = false) (ho : tkO c pp = false) : 0 < ll.length ∧ MInv R true qq ll.tail qq ll.tail := by
  obtain ⟨ps, hps, _, h2⟩ := h
  obtain ⟨q, hq, hi⟩ := h2 rfl
  have := hi.back (stuck_of hps h42 ho t)
  rw [List.drop_one] at this
  exact ⟨this.1, q, hq, (fun h => by cases h), fun _ => ⟨q, hq, this.2⟩⟩
theorem MInv.done {R sb : Bool} {qq ll pp : List UInt8} (h : MInv R sb qq ll pp []) : R = pp.all (· == 42) := by
  obtain ⟨ps, hps, h1, h2⟩ := h
  rw [← toks_stars pp ps hps]
  cases sb with
  | false => exact (h1 rfl).done
  | true =>
    obtain ⟨q, _, hi⟩ := h2 rfl
    exact hi.done
/-- How much is left to do. -/
def mus (P S : Nat) (v1 v5 v6 v7 : Value) : Nat := match v5 with
  | .bool sb => (if sb then strLen v6 else P + 1) * ((S + 2) * (S + 2)) + (if sb then strLen v7 else S + 1) * (S + 2) + strLen v1
  | _ => 0
theorem lexA (b b' l l' t t' S : Nat) (h : b' < b) (hl : l' ≤ S) (ht : t' ≤ S) : b' * ((S + 2) * (S + 2)) + l' * (S + 2) + t' < b * ((S + 2) * (S + 2)) + l * (S + 2) + t := by
  have h1 := Nat.mul_le_mul_right ((S + 2) * (S + 2)) (show b' + 1 ≤ b by omega)
  have h2 := Nat.mul_le_mul_right (S + 2) hl
  have h3 : (S + 2) * (S + 2) = S * (S + 2) + 2 * (S + 2) := Nat.add_mul ..
  rw [Nat.succ_mul] at h1
  omega
theorem lexB (b l l' t t' S : Nat) (h : l' < l) (ht : t' ≤ S) : b * ((S + 2) * (S + 2)) + l' * (S + 2) + t' < b * ((S + 2) * (S + 2)) + l * (S + 2) + t := by
  have h1 := Nat.mul_le_mul_right (S + 2) (show l' + 1 ≤ l by omega)
  rw [Nat.succ_mul] at h1
  omega
theorem tkR_at (p : List UInt8) (h : 0 < p.length) : tkR p = if p[0] = 91 then cB p.tail else p.tail := by
  cases p with
  | nil => cases h
  | cons b r => rfl
theorem tkO_at (c : UInt8) (p : List UInt8) (h : 0 < p.length) : tkO c p = if p[0] = 63 then true else if p[0] = 91 then inR c (cA p.tail) else decide (p[0] = c) := by
  cases p with
  | nil => cases h
  | cons b r => rfl
theorem mus_mk (P S : Nat) (sb : Bool) (qq ll tt : List UInt8) : mus P S (.string ⟨tt.toArray⟩) (.bool sb) (.string ⟨qq.toArray⟩) (.string ⟨ll.toArray⟩) = (if sb then qq.length else P + 1) * ((S + 2) * (S + 2)) + (if sb then ll.length else S + 1) * (S + 2) + tt.length := by
  show (if sb then strLen _ else P + 1) * ((S + 2) * (S + 2)) + (if sb then strLen _ else S + 1) * (S + 2) + strLen _ = _
  rw [strLen_mk, strLen_mk, strLen_mk]
theorem tkR_len (p : List UInt8) : (tkR p).length ≤ p.length := by
  cases p with
  | nil => exact Nat.le_refl _
  | cons b r =>
    show (if b = 91 then cB r else r).length ≤ _
    have := cB_len r
    rw [List.length_cons]
    split <;> omega
end Gl

set_option maxHeartbeats 2000000 in
theorem takes_any (p : List UInt8) (hl : p.length ≤ 4294967270) (c : UInt8) (w : World) (hm : Mx w) :
    Calls Tryz.prog 107 #[.string ⟨p.toArray⟩, .int .u8 (c.toNat : Int)] w fun e w' => e = .returned (.tuple #[.string ⟨(Gl.tkR p).toArray⟩, .bool (Gl.tkO c p)]) ∧ Below w.heap.size w w' := by
  have HM := Lib.hid hm
  clear hm
  by_cases hp : p = []
  · subst hp
    go_enter Tryz.func107, Tryz.ntmps107
    go_wp2_with fail
    ((try simp only [Exit.inBlock, Exit.then]); refine bodyPost_ret (results_tmp2 rfl _ _ _) rfl ?_)
    exact ⟨rfl, (by repeat (first | exact Below.refl _ _ | assumption | refine Below.setCell ?_ (by first | (simp; done) | omega | (simp; omega) | (simp at *; omega)) _ | refine Below.alloc ?_ (by first | (simp; done) | omega | (simp; omega) | (simp at *; omega)) _ | refine Below.drew ?_ | (refine Below.trans ?_ (Below.mono (by assumption) (by first | (simp; done) | omega | (simp; omega) | (simp at *; omega)))) | (refine Below.trans ?_ (Below.mono (below_regrown _ _ _) (by first | (simp; done) | omega | (simp; omega) | (simp at *; omega))))))⟩
  have hts : (⟨p.toArray⟩ : ByteArray).size = p.length := by show p.toArray.size = _; simp
  have hemp : p.isEmpty = false := by simpa using hp
  have h0 : 0 < p.length := List.length_pos_iff.2 hp
  have h0' : (0 : Int) < (p.length : Int) := by omega
  have h1' : (1 : Int) ≤ (p.length : Int) := by omega
  have e2 : ((((⟨p.toArray⟩ : ByteArray)[0]'(by rw [hts]; exact h0)).toNat : Int) == 63) = decide (p[0] = 63) := Gl.byteEq p[0] 63
  have e3 : ((((⟨p.toArray⟩ : ByteArray)[0]'(by rw [hts]; exact h0)).toNat : Int) == 91) = decide (p[0] = 91) := Gl.byteEq p[0] 91
  have e4 : ((((⟨p.toArray⟩ : ByteArray)[0]'(by rw [hts]; exact h0)).toNat : Int) == (c.toNat : Int)) = decide (p[0] = c) := Gl.byteEq p[0] c
  have hd1 : (⟨p.toArray⟩ : ByteArray).extract 1 p.length = ⟨p.tail.toArray⟩ := by rw [Gl.dropB, List.drop_one]
  have HR : Hid (Gl.tkR p = if p[0] = 91 then Gl.cB p.tail else p.tail) := Lib.hid (Gl.tkR_at p h0)
  have HO : Hid (Gl.tkO c p = if p[0] = 63 then true else if p[0] = 91 then Gl.inR c (Gl.cA p.tail) else decide (p[0] = c)) := Lib.hid (Gl.tkO_at c p h0)
  have htl : p.tail.length ≤ p.length := by rw [List.length_tail]; omega
  generalize Gl.tkR p = RR at *
  generalize Gl.tkO c p = RO at *
  clear hp
  by_cases b2 : p[0] = 63
  · rw [if_pos b2] at HO
    rw [if_neg (by rw [b2]; decide)] at HR
    rw [decide_eq_true b2] at e2
    clear b2 e3 e4
    go_enter Tryz.func107, Tryz.ntmps107
    go_wp2_with fail
    ((try simp only [Exit.inBlock, Exit.then]); refine bodyPost_ret (results_tmp2 rfl _ _ _) rfl ?_)
    exact ⟨Gl.ret_sb HR.out.symm HO.out.symm, (by repeat (first | exact Below.refl _ _ | assumption | refine Below.setCell ?_ (by first | (simp; done) | omega | (simp; omega) | (simp at *; omega)) _ | refine Below.alloc ?_ (by first | (simp; done) | omega | (simp; omega) | (simp at *; omega)) _ | refine Below.drew ?_ | (refine Below.trans ?_ (Below.mono (by assumption) (by first | (simp; done) | omega | (simp; omega) | (simp at *; omega)))) | (refine Below.trans ?_ (Below.mono (below_regrown _ _ _) (by first | (simp; done) | omega | (simp; omega) | (simp at *; omega))))))⟩
  rw [if_neg b2] at HO
  rw [decide_eq_false b2] at e2
  by_cases b3 : p[0] = 91
  · rw [if_pos b3] at HO HR
    rw [decide_eq_true b3] at e3
    clear b2 b3 e4
    generalize p.tail = r at *
    have HCu := Lib.hid (cut_close r (by omega) w HM.out)
    have HLi := Lib.hid fun W => lists_any (Gl.cA r) (by have := Gl.cA_len r; omega) c W
    generalize Gl.inR c (Gl.cA r) = il at *
    generalize Gl.cA r = ca at *
    generalize Gl.cB r = cb at *
    go_enter Tryz.func107, Tryz.ntmps107
    go_wp2_with first
      | (go_at_call 91; go_must (refine (HCu.out).mono ?_; rintro e w1 ⟨rfl, hb1⟩))
      | (go_at_call 131; go_must (refine (HLi.out _).mono ?_; rintro e w2 ⟨rfl, hb2⟩; have hB2 := hb1.trans (hb2.mono hb1.size)))
    ((try simp only [Exit.inBlock, Exit.then]); refine bodyPost_ret (results_tmp2 rfl _ _ _) rfl ?_)
    exact ⟨Gl.ret_sb HR.out.symm HO.out.symm, hB2⟩
  · rw [if_neg b3] at HO HR
    rw [decide_eq_false b3] at e3
    have HOv := Lib.hid HO.out.symm
    cases hd : decide (p[0] = c)
    · rw [hd] at e4 HOv
      clear hd b2 b3 HO
      go_enter Tryz.func107, Tryz.ntmps107
      go_wp2_with fail
      go_region
      all_goals
        go_wp2_with fail
        ((try simp only [Exit.inBlock, Exit.then]); refine bodyPost_ret (results_tmp2 rfl _ _ _) rfl ?_)
        exact ⟨Gl.ret_sb HR.out.symm HOv.out, (by repeat (first | exact Below.refl _ _ | assumption | refine Below.setCell ?_ (by first | (simp; done) | omega | (simp; omega) | (simp at *; omega)) _ | refine Below.alloc ?_ (by first | (simp; done) | omega | (simp; omega) | (simp at *; omega)) _ | refine Below.drew ?_ | (refine Below.trans ?_ (Below.mono (by assumption) (by first | (simp; done) | omega | (simp; omega) | (simp at *; omega)))) | (refine Below.trans ?_ (Below.mono (below_regrown _ _ _) (by first | (simp; done) | omega | (simp; omega) | (simp at *; omega))))))⟩
    · rw [hd] at e4 HOv
      clear hd b2 b3 HO
      go_enter Tryz.func107, Tryz.ntmps107
      go_wp2_with fail
      go_region
      all_goals
        go_wp2_with fail
        ((try simp only [Exit.inBlock, Exit.then]); refine bodyPost_ret (results_tmp2 rfl _ _ _) rfl ?_)
        exact ⟨Gl.ret_sb HR.out.symm HOv.out, (by repeat (first | exact Below.refl _ _ | assumption | refine Below.setCell ?_ (by first | (simp; done) | omega | (simp; omega) | (simp at *; omega)) _ | refine Below.alloc ?_ (by first | (simp; done) | omega | (simp; omega) | (simp at *; omega)) _ | refine Below.drew ?_ | (refine Below.trans ?_ (Below.mono (by assumption) (by first | (simp; done) | omega | (simp; omega) | (simp at *; omega)))) | (refine Below.trans ?_ (Below.mono (below_regrown _ _ _) (by first | (simp; done) | omega | (simp; omega) | (simp at *; omega))))))⟩

theorem star_prefix (p : List UInt8) (w : World) :
    Calls Tryz.prog 86 #[.string ⟨p.toArray⟩, .string ⟨#[42]⟩] w fun e w' => e = .returned (.bool (Lib.hasPrefix p [42])) ∧ w' = w := by
  refine (Tryz.strings_HasPrefix ⟨p.toArray⟩ ⟨#[42]⟩ w).mono ?_
  rintro e w' ⟨rfl, hw⟩
  exact ⟨by show Ending.returned (.bool (Lib.hasPrefix p.toArray.toList [42])) = _; rw [List.toList_toArray], hw⟩
theorem trim_star (p : List UInt8) (hl : p.length ≤ 4294967270) (w : World) :
    Calls Tryz.prog 108 #[.string ⟨p.toArray⟩, .string ⟨#[42]⟩] w fun e w' => e = .returned (.string ⟨(Lib.trimB p 42).toArray⟩) ∧ Below w.heap.size w w' := by
  refine (Tryz.strings_Trim_one ⟨p.toArray⟩ 42 (by decide) w (by show p.toArray.size ≤ _; simp; omega)).mono ?_
  rintro e w' ⟨rfl, hw⟩
  refine ⟨by show Ending.returned (.string ⟨(Lib.trimB p.toArray.toList 42).toArray⟩) = _; rw [List.toList_toArray], ?_⟩
  rcases hw with rfl | rfl
  · exact Below.refl _ _
  · exact (Below.refl _ _).drew

set_option maxHeartbeats 4000000 in
theorem match_any (p s : List UInt8) (hp : p.length ≤ 4294967270) (hs : s.length ≤ 4294967270) (w : World) (hm : Mx w) :
    Calls Tryz.prog 73 #[.string ⟨p.toArray⟩, .string ⟨s.toArray⟩] w fun e w' => e = .returned (.bool (Gl.gm p s)) ∧ Below w.heap.size w w' := by
  have HS := Lib.hid (isSimple_any p hp w hm)
  have HM : Hid (∀ W, Below w.heap.size w W → Mx W) := Lib.hid fun W h => hm.below h
  clear hm
  cases hsm : Gl.simple p
  · rw [hsm] at HS
    have HQ : Hid (false = Gl.gm p s) := Lib.hid (by
      unfold Gl.simple at hsm
      unfold Gl.gm
      cases h : Gl.toks none p with
      | none => rfl
      | some x => rw [h] at hsm; cases hsm)
    generalize Gl.gm p s = R at *
    clear hsm
    go_enter Tryz.func73, Tryz.ntmps73
    go_wp2_with (go_at_call 67; go_must (refine (HS.out).mono ?_; rintro e w1 ⟨rfl, hb1⟩))
    go_ret
    exact ⟨Gl.ret_bool HQ.out, hb1⟩
  · rw [hsm] at HS
    have HI0 := Lib.hid (Gl.MInv.start (s := s) hsm)
    generalize Gl.gm p s = R at *
    clear hsm
    go_enter Tryz.func73, Tryz.ntmps73
    go_wp2_with (go_at_call 67; go_must (refine (HS.out).mono ?_; rintro e w1 ⟨rfl, hb1⟩))
    go_loopw [0, 1, 5, 6, 7] (fun v0 v1 v5 v6 v7 wr => ∃ (sb : Bool) (qq ll pp tt : List UInt8), v0 = .string ⟨pp.toArray⟩ ∧ v1 = .string ⟨tt.toArray⟩ ∧ v5 = .bool sb ∧ v6 = .string ⟨qq.toArray⟩ ∧ v7 = .string ⟨ll.toArray⟩ ∧
        Hid (Gl.MInv R sb qq ll pp tt) ∧ Hid (pp.length ≤ p.length ∧ qq.length ≤ p.length ∧ tt.length ≤ s.length ∧ ll.length ≤ s.length ∧ (sb = true → pp.length ≤ qq.length)) ∧ Below w.heap.size w wr)
        (fun _ v1 v5 v6 v7 _ => Gl.mus p.length s.length v1 v5 v6 v7)
    case atStart => exact ⟨false, [], [], p, s, rfl, rfl, rfl, rfl, rfl, HI0, Lib.hid ⟨Nat.le_refl _, Nat.zero_le _, Nat.le_refl _, Nat.zero_le _, (fun h => by cases h)⟩, hb1⟩
    case round =>
      obtain ⟨sb, qq, ll, pp, tt, rfl, rfl, rfl, rfl, rfl, HI, HL, hbel⟩ := hrel
      have hpl : (pp.length : Int) ≤ 4294967270 := by have := HL.out.1; omega
      have htl : (tt.length : Int) ≤ 4294967270 := by have := HL.out.2.2.1; omega
      cases tt with
      | nil =>
        have HQ := Lib.hid (Gl.MInv.done HI.out)
        rw [← Gl.trim_stars] at HQ
        have HT := Lib.hid fun W => trim_star pp (by omega) W
        generalize Lib.trimB pp 42 = y at *
        go_wp2_with (go_at_call 108; go_must (refine (HT.out _).mono ?_; rintro e w1 ⟨rfl, hb1⟩))
        go_ret
        refine ⟨Gl.ret_bool ?_, hbel.trans (hb1.mono hbel.size)⟩
        rw [HQ.out]
      | cons c t =>
        have HPr := Lib.hid fun W => star_prefix pp W
        have hcl : (c :: t).length = t.length + 1 := List.length_cons ..
        have hd1 : (⟨(c :: t).toArray⟩ : ByteArray).extract 1 (t.length + 1) = ⟨t.toArray⟩ := by
          have := Gl.dropB (c :: t) 1
          rw [hcl] at this; exact this
        cases h42 : Lib.hasPrefix pp [42]
        · rw [h42] at HPr
          have HT := Lib.hid fun W (h : Mx W) => takes_any pp (by omega) c W h
          have HTl := Lib.hid (Gl.tkR_len pp)
          cases ho : Gl.tkO c pp
          · rw [ho] at HT
            cases sb with
            | false =>
              have HQ := Lib.hid (HI.out.stuck h42 ho)
              clear h42 ho
              go_wp2_with first
                | (go_at_call 86; go_must (refine (HPr.out _).mono ?_; rintro e w1 ⟨rfl, hw1⟩; rw [hw1]))
                | (go_at_call 107; go_must (refine (HT.out _ (HM.out _ hbel)).mono ?_; rintro e w1 ⟨rfl, hb1⟩))
              go_ret
              exact ⟨Gl.ret_bool HQ.out, hbel.trans (hb1.mono hbel.size)⟩
            | true =>
              have HQ := Lib.hid (HI.out.back h42 ho)
              have hll := HQ.out.1
              have hll1 : (1 : Int) ≤ (ll.length : Int) := by omega
              have hdl : (⟨ll.toArray⟩ : ByteArray).extract 1 ll.length = ⟨ll.tail.toArray⟩ := by rw [Gl.dropB, List.drop_one]
              clear h42 ho
              go_wp2_with first
                | (go_at_call 86; go_must (refine (HPr.out _).mono ?_; rintro e w1 ⟨rfl, hw1⟩; rw [hw1]))
                | (go_at_call 107; go_must (refine (HT.out _ (HM.out _ hbel)).mono ?_; rintro e w1 ⟨rfl, hb1⟩))
              go_roundw
              case rel =>
                have hL := HL.out
                exact ⟨true, qq, ll.tail, qq, ll.tail, rfl, rfl, rfl, rfl, rfl, Lib.hid HQ.out.2, Lib.hid ⟨hL.2.1, hL.2.1, by rw [List.length_tail]; omega, by rw [List.length_tail]; omega, fun _ => Nat.le_refl _⟩, hbel.trans (hb1.mono hbel.size)⟩
              case measure =>
                have hL := HL.out
                rw [Gl.mus_mk, Gl.mus_mk]
                exact Gl.lexB _ _ _ _ _ _ (by show ll.tail.length < ll.length; rw [List.length_tail]; omega) (by rw [List.length_tail]; omega)
          · rw [ho] at HT
            have HQ := Lib.hid (HI.out.take h42 ho)
            clear h42 ho
            generalize Gl.tkR pp = rr at *
            go_wp2_with first
              | (go_at_call 86; go_must (refine (HPr.out _).mono ?_; rintro e w1 ⟨rfl, hw1⟩; rw [hw1]))
              | (go_at_call 107; go_must (refine (HT.out _ (HM.out _ hbel)).mono ?_; rintro e w1 ⟨rfl, hb1⟩))
            go_region
            all_goals
              go_wp2_with fail
              go_roundw
              case rel =>
                have hL := HL.out
                have hT := HTl.out
                rw [hcl] at hL
                exact ⟨sb, qq, ll, rr, t, rfl, rfl, rfl, rfl, rfl, HQ, Lib.hid ⟨by omega, hL.2.1, by omega, hL.2.2.2.1, fun h => Nat.le_trans hT (hL.2.2.2.2 h)⟩, (hbel.trans (hb1.mono hbel.size)).drew⟩
              case measure =>
                rw [Gl.mus_mk, Gl.mus_mk, hcl]
                omega
        · rw [h42] at HPr
          obtain ⟨r, rfl⟩ : ∃ r, pp = 42 :: r := by
            cases pp with
            | nil => cases h42
            | cons b r =>
              rw [Gl.head42] at h42
              exact ⟨r, by rw [of_decide_eq_true h42]⟩
          have HQ := Lib.hid HI.out.star
          have hrl : (42 :: r : List UInt8).length = r.length + 1 := List.length_cons ..
          have hdr : (⟨(42 :: r : List UInt8).toArray⟩ : ByteArray).extract 1 (r.length + 1) = ⟨r.toArray⟩ := by
            have := Gl.dropB (42 :: r) 1
            rw [hrl] at this; exact this
          clear h42
          go_wp2_with (go_at_call 86; go_must (refine (HPr.out _).mono ?_; rintro e w1 ⟨rfl, hw1⟩; rw [hw1]))
          go_roundw
          case rel =>
            have hL := HL.out
            rw [hrl] at hL
            exact ⟨true, r, c :: t, r, c :: t, rfl, rfl, rfl, rfl, rfl, HQ, Lib.hid ⟨by omega, by omega, hL.2.2.1, hL.2.2.1, fun _ => Nat.le_refl _⟩, hbel⟩
          case measure =>
            have hL := HL.out
            rw [hrl] at hL
            rw [Gl.mus_mk, Gl.mus_mk]
            refine Gl.lexA _ _ _ _ _ _ _ ?_ hL.2.2.1 hL.2.2.1
            cases sb with
            | false => show r.length < p.length + 1; omega
            | true => show r.length < qq.length; have := hL.2.2.2.2 rfl; omega
end Go.Proofs.YtfmbbhcjnidcbaaGreatDoor
