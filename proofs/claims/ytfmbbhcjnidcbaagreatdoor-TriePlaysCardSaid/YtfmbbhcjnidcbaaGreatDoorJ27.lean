/-
  GlIx: CONTRACTS: strings.IndexAny at three bytes of ASCII, over every text (the shelf's own speaks of ASCII texts alone): the runes of a text that are no ASCII are never among them.
-/
import Derived.Test.YtfmbbhcjnidcbaaGreatDoorJ4
import Derived.Test.YtfmbbhcjnidcbaaGreatDoorJ6
import Derived.Laws.RangeAny
import Derived.Laws.Runes
import Derived.RegionTactic
import Derived.WalkMore

namespace Go.Proofs.YtfmbbhcjnidcbaaGreatDoor
open Go.RowKit
open Me

namespace Gl
theorem decode_skip (s : ByteArray) (pos : Nat) (h : pos < s.size) (ha : 128 ≤ (s[pos]'h).toNat) : ∀ k, k < (Utf8.decode s pos).2 → pos + k < s.size ∧ 128 ≤ (s.get! (pos + k)).toNat := by
  have hn : ¬ (s[pos]'h).toNat < 128 := by omega
  have h0 : (s.get! (pos + 0)).toNat = (s[pos]'h).toNat := by rw [get_at s pos h]
  have cont : ∀ k, (decide (pos + k < s.size) && (s.get! (pos + k)).toNat / 64 == 2) = true → pos + k < s.size ∧ 128 ≤ (s.get! (pos + k)).toNat := by
    intro k hk
    rw [Bool.and_eq_true, beq_iff_eq, decide_eq_true_eq] at hk
    exact ⟨hk.1, by omega⟩
  have z : pos + 0 < s.size ∧ 128 ≤ (s.get! (pos + 0)).toNat := ⟨h, by omega⟩
  intro k hk
  unfold Utf8.decode at hk
  simp only [h0, hn, if_false] at hk
  have one : ∀ k, k < 1 → pos + k < s.size ∧ 128 ≤ (s.get! (pos + k)).toNat := by
    intro k hk; obtain rfl : k = 0 := by omega
    exact z
  split at hk
  · rename_i c1
    rw [Bool.and_eq_true] at c1
    split at hk
    · match k, hk with
      | 0, _ => exact z
      | 1, _ => exact cont 1 c1.2
      | k + 2, hk => exact absurd hk (by simp)
    · exact one k hk
  · split at hk
    · rename_i c1
      rw [Bool.and_eq_true, Bool.and_eq_true] at c1
      split at hk
      · match k, hk with
        | 0, _ => exact z
        | 1, _ => exact cont 1 c1.1.2
        | 2, _ => exact cont 2 c1.2
        | k + 3, hk => exact absurd hk (by simp)
      · exact one k hk
    · split at hk
      · rename_i c1
        rw [Bool.and_eq_true, Bool.and_eq_true, Bool.and_eq_true] at c1
        split at hk
        · match k, hk with
          | 0, _ => exact z
          | 1, _ => exact cont 1 c1.1.1.2
          | 2, _ => exact cont 2 c1.1.2
          | 3, _ => exact cont 3 c1.2
          | k + 4, hk => exact absurd hk (by simp)
        · exact one k hk
      · exact one k hk
theorem drewN_below {B : Nat} {a w : World} (h : Below B a w) (n : Nat) : Below B a (w.drewN n) := ⟨h.os, h.tape, h.output, h.size, h.block⟩
theorem indexByte_no (l : List UInt8) (c : UInt8) (h : ∀ b ∈ l, b ≠ c) : Lib.indexByte l c = -1 := by
  induction l with
  | nil => rfl
  | cons b r ih =>
    unfold Lib.indexByte
    rw [if_neg (by simpa using h b (List.mem_cons_self ..)), ih fun x hx => h x (List.mem_cons_of_mem _ hx)]
    rfl
/-- Three bytes of ASCII. -/
def Three (S : ByteArray) : Prop := S.size = 3 ∧ ∀ b ∈ S.data.toList, b.toNat < 128
theorem Three.lt {S : ByteArray} (h : Three S) (j : Nat) (hj : j < S.size) : (S[j]'hj).toNat < 128 := h.2 _ (Array.getElem_mem_toList (xs := S.data) hj)
theorem Three.none {S : ByteArray} (h : Three S) (k : Nat) (c : UInt8) (hc : 128 ≤ c.toNat) : Lib.indexByte (S.extract k 3).data.toList ((c.toNat : Int).toNat.toUInt8) = -1 := by
  rw [show ((c.toNat : Int).toNat.toUInt8) = c by rw [Int.toNat_natCast]; exact UInt8.ofNat_toNat]
  exact indexByte_no _ _ fun b hb e => by
    have := h.2 b (mem_extract hb)
    rw [e] at this
    omega
end Gl

set_option maxHeartbeats 1000000 in
theorem validRune_any (r : Int) (w : World) :
    Calls Tryz.prog 152 #[.int .i32 r] w fun e w' => e = .returned (.bool (validRune r)) ∧ w' = w := by
  have HV : Hid (validRune r = decide ((0 ≤ r ∧ r < 55296) ∨ (57343 < r ∧ r ≤ 1114111))) := Lib.hid rfl
  generalize validRune r = R at *
  by_cases h1 : 0 ≤ r
  · by_cases h2 : r < 55296
    · have HQ : Hid (true = R) := Lib.hid (by rw [HV.out, decide_eq_true (.inl ⟨h1, h2⟩)])
      go_enter Tryz.func152, Tryz.ntmps152
      go_wp2_with fail
      go_ret
      exact ⟨congrArg (fun b => Ending.returned (.bool b)) HQ.out, rfl⟩
    · by_cases h3 : 57343 < r
      · by_cases h4 : r ≤ 1114111
        · have HQ : Hid (true = R) := Lib.hid (by rw [HV.out, decide_eq_true (.inr ⟨h3, h4⟩)])
          go_enter Tryz.func152, Tryz.ntmps152
          go_wp2_with fail
          go_ret
          exact ⟨congrArg (fun b => Ending.returned (.bool b)) HQ.out, rfl⟩
        · have HQ : Hid (false = R) := Lib.hid (by rw [HV.out, decide_eq_false (by omega)])
          go_enter Tryz.func152, Tryz.ntmps152
          go_wp2_with fail
          go_ret
          exact ⟨congrArg (fun b => Ending.returned (.bool b)) HQ.out, rfl⟩
      · have HQ : Hid (false = R) := Lib.hid (by rw [HV.out, decide_eq_false (by omega)])
        go_enter Tryz.func152, Tryz.ntmps152
        go_wp2_with fail
        go_ret
        exact ⟨congrArg (fun b => Ending.returned (.bool b)) HQ.out, rfl⟩
  · have h3 : ¬ 57343 < r := by omega
    have HQ : Hid (false = R) := Lib.hid (by rw [HV.out, decide_eq_false (by omega)])
    go_enter Tryz.func152, Tryz.ntmps152
    go_wp2_with fail
    go_ret
    exact ⟨congrArg (fun b => Ending.returned (.bool b)) HQ.out, rfl⟩

set_option maxHeartbeats 2000000 in
set_option maxRecDepth 100000 in
theorem indexRune_high (S : ByteArray) (hS : Gl.Three S) (r : Int) (h1 : 128 ≤ r) (h2 : r ≤ 2147483647) (w : World) :
    Calls Tryz.prog 115 #[.string S, .int .i32 r] w fun e w' => e = .returned (.int .i64 (-1)) ∧ Below w.heap.size w w' := by
  have g0 : 0 ≤ r := by omega
  have g1 : ¬ r < 128 := by omega
  have HS := Lib.hid hS
  have hsz : S.size = 3 := hS.1
  clear hS
  by_cases hE : r = 65533
  · subst hE
    go_enter Tryz.func115, Tryz.ntmps115
    go_wp2_with fail
    go_loopw [5, 6] (fun _ _ wr => ∃ k : Nat, k ≤ 3 ∧ wr = w.iter S k) (fun _ _ wr => 3 - wr.iterPos w.heap.size)
    case atStart => exact ⟨0, Nat.zero_le _, rfl⟩
    case round =>
      obtain ⟨k, hk, rfl⟩ := hrel
      by_cases hlt : k < 3
      · have hlt' : k < S.size := by omega
        have ha := HS.out.lt k hlt'
        have hnx : ∀ ty, (Instr.next (.pointer (some ⟨w.heap.size, 0, none⟩)) true ty).run Tryz.prog (w.iter S k) = _ := fun ty => run_next_ascii w S k ty hlt' ha
        have hne : ((((S[k]'hlt').toNat : Nat) : Int) == 65533) = false := by simp; omega
        have hne2 : ((((S[k]'hlt').toNat : Nat)) == 65533) = false := by simp; omega
        go_wp2
        go_roundw
        case rel => exact ⟨k + 1, by omega, rfl⟩
        case measure => simp; omega
      · obtain rfl : k = 3 := by omega
        have hnx : ∀ ty, (Instr.next (.pointer (some ⟨w.heap.size, 0, none⟩)) true ty).run Tryz.prog (w.iter S 3) = _ := fun ty => run_next_end w S 3 ty (by omega)
        go_wp2
        go_ret
        exact ⟨rfl, (Below.refl _ _).alloc (Nat.le_refl _) _⟩
  · have hEb : (r == 65533) = false := by simpa using hE
    cases hv : validRune r
    · have HV := Lib.hid fun W => validRune_any r W
      rw [hv] at HV
      clear hE hv
      go_enter Tryz.func115, Tryz.ntmps115
      go_wp2_with (go_at_call 152; go_must (refine (HV.out _).mono ?_; rintro e w1 ⟨rfl, rfl⟩))
      go_ret
      exact ⟨rfl, Below.refl _ _⟩
    · have HV := Lib.hid fun W => validRune_any r W
      obtain ⟨f1, f2, f3⟩ := encode_facts r (by rw [validRune_eq]; exact hv) h1
      rw [hv] at HV
      clear hE hv
      have HN := Lib.hid fun k (c : UInt8) (hc : 128 ≤ c.toNat) => HS.out.none k c hc
      have HI := Lib.hid fun k (c : UInt8) W => Tryz.strings_IndexByte (S.extract k 3) (c.toNat : Int) W
      have HLt := Lib.hid fun j hj => HS.out.lt j hj
      have hcv : ∀ W : World, (convert 21 9 (.int .i32 r)).run Tryz.prog W = .ok (.string (Utf8.encode r)) W := fun W => run_convert_int_string W _ _ _ _ (by kernel_rfl) Tryz.underlying9
      generalize hen : Utf8.encode r = E at *
      clear hen
      rcases (show E.size = 2 ∨ E.size = 3 ∨ E.size = 4 by omega) with hn | hn | hn
      · have hlast : 128 ≤ (E[1]'(by omega)).toNat := by
          have := f3 (by omega)
          simpa [hn] using this
        clear f1 f2 f3
        have hb := HLt.out 1 (by omega)
        have hne : ((((S[1]'(by omega)).toNat : Nat) : Int) == ((E[1]'(by omega)).toNat : Int)) = false := by simp; omega
        have hne1 : ((((S[1]'(by omega)).toNat : Nat) : Int) != ((E[1]'(by omega)).toNat : Int)) = true := by simp; omega
        have hne2 : (((S[1]'(by omega)).toNat) == ((E[1]'(by omega)).toNat)) = false := by simp; omega
        have HB := Lib.hid (HI.out 2 (E[1]'(by omega)))
        rw [HN.out 2 _ hlast] at HB
        have hwk : IntKind.i64.wrap 2 = 2 := IntWalk.i64_in _ (by omega)
        clear hlast hb
        go_enter Tryz.func115, Tryz.ntmps115
        go_wp2_with (go_at_call 152; go_must (refine (HV.out _).mono ?_; rintro e w1 ⟨rfl, hw1⟩; rw [hw1]))
        refine wp_scope_straight ?_
        go_wp2_with fail
        refine wp_loop_once ?_
        go_wp2_with fail
        (first | refine wp_scope_straight ?_ | skip)
        go_wp2_with fail
        go_quiet (fail)
        have hbx : Below w.heap.size w (w.drewN nq) := ⟨rfl, rfl, rfl, Nat.le_refl _, fun _ _ => rfl⟩
        generalize w.drewN nq = wx at *
        go_wp2_with fail
        go_quiet ((go_at_call 83; exact Calls.quiet_of_same (HB.out _)))
        go_wp2_with fail
        (try simp (config := { zetaDelta := true }) only [Exit.inBlock, Exit.then, Exit.noGoto])
        go_ret
        exact ⟨rfl, Gl.drewN_below hbx _⟩
      · have hlast : 128 ≤ (E[2]'(by omega)).toNat := by
          have := f3 (by omega)
          simpa [hn] using this
        clear f1 f2 f3
        have hb := HLt.out 2 (by omega)
        have hne : ((((S[2]'(by omega)).toNat : Nat) : Int) == ((E[2]'(by omega)).toNat : Int)) = false := by simp; omega
        have hne1 : ((((S[2]'(by omega)).toNat : Nat) : Int) != ((E[2]'(by omega)).toNat : Int)) = true := by simp; omega
        have hne2 : (((S[2]'(by omega)).toNat) == ((E[2]'(by omega)).toNat)) = false := by simp; omega
        have HB := Lib.hid (HI.out 3 (E[2]'(by omega)))
        rw [HN.out 3 _ hlast] at HB
        rw [show S.extract 3 3 = ByteArray.empty by simp] at HB
        have hwk : IntKind.i64.wrap 3 = 3 := IntWalk.i64_in _ (by omega)
        clear hlast hb
        go_enter Tryz.func115, Tryz.ntmps115
        go_wp2_with (go_at_call 152; go_must (refine (HV.out _).mono ?_; rintro e w1 ⟨rfl, hw1⟩; rw [hw1]))
        refine wp_scope_straight ?_
        go_wp2_with fail
        refine wp_loop_once ?_
        go_wp2_with fail
        (first | refine wp_scope_straight ?_ | skip)
        go_wp2_with fail
        go_quiet (fail)
        have hbx : Below w.heap.size w (w.drewN nq) := ⟨rfl, rfl, rfl, Nat.le_refl _, fun _ _ => rfl⟩
        generalize w.drewN nq = wx at *
        go_wp2_with fail
        go_quiet ((go_at_call 83; exact Calls.quiet_of_same (HB.out _)))
        go_wp2_with fail
        (try simp (config := { zetaDelta := true }) only [Exit.inBlock, Exit.then, Exit.noGoto])
        go_ret
        exact ⟨rfl, Gl.drewN_below hbx _⟩
      · clear f1 f2 f3
        go_enter Tryz.func115, Tryz.ntmps115
        go_wp2_with (go_at_call 152; go_must (refine (HV.out _).mono ?_; rintro e w1 ⟨rfl, hw1⟩; rw [hw1]))
        refine wp_scope_straight ?_
        go_wp2_with fail
        refine wp_loop_once ?_
        go_wp2_with fail
        (try simp (config := { zetaDelta := true }) only [Exit.inBlock, Exit.then, Exit.noGoto])
        go_ret
        exact ⟨rfl, Below.refl _ _⟩

namespace Gl
/-- The first of its bytes that is one of these. -/
def fst (cs : List UInt8) (s : List UInt8) : List UInt8 := s.takeWhile fun b => !cs.contains b
theorem iterAt_below {w w' : World} (h : Below w.heap.size w w') (s : ByteArray) (p : Nat) {k : Nat} (hk : w.heap.size ≤ k) : Below w.heap.size w (w'.iterAt k s p) := by
  refine ⟨h.os, h.tape, h.output, ?_, fun i hi => ?_⟩
  · show _ ≤ (w'.heap.setIfInBounds k _).size; rw [Array.size_setIfInBounds]; exact h.size
  · show (w'.heap.setIfInBounds k _)[i]? = _
    rw [Array.getElem?_setIfInBounds, if_neg (by omega)]
    exact h.block i hi
theorem noAny_skip {cs s : List UInt8} {k n : Nat} (hc : Three ⟨cs.toArray⟩) (h : Lib.NoAny s cs k) (hs : (⟨s.toArray⟩ : ByteArray).size = s.length) (hn : 1 ≤ n) (hk : ∀ i, i < n → k + i < (⟨s.toArray⟩ : ByteArray).size ∧ 128 ≤ ((⟨s.toArray⟩ : ByteArray).get! (k + i)).toNat) :
    k + n ≤ s.length ∧ Lib.NoAny s cs (k + n) := by
  constructor
  · have := (hk (n - 1) (by omega)).1
    omega
  · intro j b hj hb
    by_cases hjk : j < k
    · exact h j b hjk hb
    · have h1 := hk (j - k) (by omega)
      rw [show k + (j - k) = j by omega] at h1
      have hjl : j < s.length := by omega
      have e : (⟨s.toArray⟩ : ByteArray).get! j = s[j] := by
        show s.toArray[j]! = _
        simp [hjl]
      rw [e] at h1
      rw [List.getElem?_eq_getElem hjl] at hb
      obtain rfl := Option.some.inj hb
      cases hh : cs.contains s[j] with
      | false => rfl
      | true =>
        have := hc.2 s[j] (by simpa using hh)
        omega
theorem ret_i {a b : Int} (h : a = b) : Ending.returned (.int .i64 a) = .returned (.int .i64 b) := by rw [h]
def ix (cs s : List UInt8) : Int := if (fst cs s).length < s.length then ((fst cs s).length : Int) else -1
theorem ix_ge (cs s : List UInt8) : -1 ≤ ix cs s := by unfold ix; split <;> omega
theorem ix_eq (cs s : List UInt8) : Lib.indexAny s cs = ix cs s := by
  induction s with
  | nil => rfl
  | cons b r ih =>
    unfold Lib.indexAny ix fst
    rw [List.takeWhile_cons]
    cases hc : cs.contains b
    · show (if (Lib.indexAny r cs == -1) = true then (-1 : Int) else Lib.indexAny r cs + 1) = if (b :: fst cs r).length < (b :: r).length then (((b :: fst cs r).length : Nat) : Int) else -1
      rw [ih, List.length_cons, List.length_cons]
      unfold ix
      generalize (fst cs r).length = n
      by_cases h : n < r.length
      · have h1 : n + 1 < r.length + 1 := by omega
        rw [if_pos h, if_pos h1, if_neg (by simp)]; omega
      · have h1 : ¬ n + 1 < r.length + 1 := by omega
        rw [if_neg h, if_neg h1]; rfl
    · show (0 : Int) = if 0 < (b :: r).length then ((0 : Nat) : Int) else -1
      simp
end Gl

set_option maxHeartbeats 2000000 in
set_option maxRecDepth 100000 in
theorem indexAny_short (cs : List UInt8) (hc3 : Gl.Three ⟨cs.toArray⟩) (s : List UInt8) (h8 : s.length ≤ 8) (w : World) :
    Calls Tryz.prog 84 #[.string ⟨s.toArray⟩, .string ⟨cs.toArray⟩] w fun e w' => e = .returned (.int .i64 (Gl.ix cs s)) ∧ Below w.heap.size w w' := by
  have hs : (⟨s.toArray⟩ : ByteArray).size = s.length := by show s.toArray.size = _; simp
  have hsc : (⟨cs.toArray⟩ : ByteArray).size = cs.length := by show cs.toArray.size = _; simp
  have hcl : cs.length = 3 := by rw [← hsc]; exact hc3.1
  have hemp : cs.isEmpty = false := by cases cs with
    | nil => simp at hcl
    | cons a r => rfl
  have hc1 : ((cs.length : Int) == 1) = false := by rw [hcl]; rfl
  have h8z : decide ((8 : Int) < (s.length : Int)) = false := decide_eq_false (by omega)
  have HU := Lib.hid fun W => Tryz.strings_shouldUseASCIISet (s.length : Int) W
  rw [h8z] at HU
  have HH := Lib.hid fun (r : Int) h1 h2 W => indexRune_high ⟨cs.toArray⟩ hc3 r h1 h2 W
  have HA := Lib.hid fun (r : Int) W h0 h1 => Tryz.strings_IndexRune_ascii ⟨cs.toArray⟩ r W h0 h1
  have HC := Lib.hid hc3
  have HE := Lib.hid (Gl.ix_eq cs s)
  have HD := Lib.hid (decode_high (⟨s.toArray⟩ : ByteArray))
  have HDl := Lib.hid (decode_le (⟨s.toArray⟩ : ByteArray))
  have HSk := Lib.hid (Gl.decode_skip (⟨s.toArray⟩ : ByteArray))
  clear hc3 hcl h8z
  generalize Gl.ix cs s = R at *
  have hw : Hid (w.heap.size < w.heap.size + 1) := Lib.hid (by omega)
  go_enter Tryz.func84, Tryz.ntmps84
  go_wp2_with (go_at_call 116; go_must (refine (HU.out _).mono ?_; rintro e w1 ⟨rfl, hw1⟩; rw [hw1]))
  go_loopw [9, 10] (fun _ _ wr => ∃ k : Nat, k ≤ s.length ∧ wr.heap[w.heap.size]? = some (.stringIter ⟨s.toArray⟩ k) ∧ Hid (Lib.NoAny s cs k) ∧ Hid (Below w.heap.size w wr)) (fun _ _ wr => s.length - wr.iterPos w.heap.size)
  case atStart => exact ⟨0, Nat.zero_le _, World.iter_heap w _ 0, Lib.hid (Lib.NoAny.zero _ _), Lib.hid ((Below.refl _ _).alloc (Nat.le_refl _) _)⟩
  case round =>
    obtain ⟨k, hk, hit, HN, HB⟩ := hrel
    by_cases hlt : k < s.length
    · have hlt' : k < (⟨s.toArray⟩ : ByteArray).size := by omega
      have hlz : w.heap.size < wr.heap.size := (Array.getElem?_eq_some_iff.1 hit).1
      have HX : Hid (s[k]? = some s[k]) := Lib.hid (List.getElem?_eq_getElem hlt)
      by_cases ha : (((⟨s.toArray⟩ : ByteArray)[k]'hlt').toNat) < 128
      · have hnx : ∀ ty, (Instr.next (.pointer (some ⟨w.heap.size, 0, none⟩)) true ty).run Tryz.prog wr = _ := fun ty => Lib.run_next_ascii_at wr w.heap.size ⟨s.toArray⟩ k ty hit hlt' ha
        have hb1 : Hid (Below w.heap.size w (wr.iterAt w.heap.size ⟨s.toArray⟩ (k + 1))) := Lib.hid (Gl.iterAt_below HB.out _ _ (Nat.le_refl _))
        have hit1 := Lib.iterAt_heap wr w.heap.size ⟨s.toArray⟩ k (k + 1) hit
        have HC1 := Lib.hid (HA.out ((((⟨s.toArray⟩ : ByteArray)[k]'hlt').toNat : Nat) : Int) (wr.iterAt w.heap.size ⟨s.toArray⟩ (k + 1)) (by omega) (by omega))
        rw [show (((((⟨s.toArray⟩ : ByteArray)[k]'hlt').toNat : Nat) : Int).toNat.toUInt8) = s[k] by rw [Int.toNat_natCast]; exact UInt8.ofNat_toNat] at HC1
        have hcon := Lib.contains_iff_indexByte cs s[k]
        generalize wr.iterAt w.heap.size ⟨s.toArray⟩ (k + 1) = wx at *
        cases hin : cs.contains s[k]
        · rw [hin] at hcon
          have hge : ¬ (0 : Int) ≤ Lib.indexByte cs s[k] := of_decide_eq_false hcon.symm
          have HN2 := Lib.hid (HN.out.succ HX.out hin)
          clear hcon hin
          go_wp2_with (go_at_call 115; go_must (refine (HC1.out).mono ?_; rintro e w1 ⟨rfl, hw1⟩; rw [hw1]))
          go_roundw
          case rel => exact ⟨k + 1, by omega, hit1, HN2, hb1⟩
          case measure => simp [World.iterPos, hit1, hit]; omega
        · rw [hin] at hcon
          have hge : (0 : Int) ≤ Lib.indexByte cs s[k] := of_decide_eq_true hcon.symm
          have HQ : Hid (R = (k : Int)) := Lib.hid (by rw [← HE.out]; exact Lib.indexAny_hit HN.out HX.out hin)
          clear hcon hin
          go_wp2_with (go_at_call 115; go_must (refine (HC1.out).mono ?_; rintro e w1 ⟨rfl, hw1⟩; rw [hw1]))
          go_ret
          exact ⟨Gl.ret_i HQ.out.symm, hb1.out⟩
      · have ha2 : 128 ≤ (((⟨s.toArray⟩ : ByteArray)[k]'hlt').toNat) := by omega
        have hnx : ∀ ty, (Instr.next (.pointer (some ⟨w.heap.size, 0, none⟩)) true ty).run Tryz.prog wr = _ := fun ty => Lib.run_next_any_at wr w.heap.size ⟨s.toArray⟩ k ty hit hlt'
        have hdh := HD.out k hlt' ha2
        have hdl := HDl.out k
        have hsk := Lib.hid (HSk.out k hlt' ha2)
        have hb1 : Hid (Below w.heap.size w (wr.iterAt w.heap.size ⟨s.toArray⟩ (k + (Utf8.decode (⟨s.toArray⟩ : ByteArray) k).2))) := Lib.hid (Gl.iterAt_below HB.out _ _ (Nat.le_refl _))
        have hit1 := Lib.iterAt_heap wr w.heap.size ⟨s.toArray⟩ k (k + (Utf8.decode (⟨s.toArray⟩ : ByteArray) k).2) hit
        have hsz1 : (wr.iterAt w.heap.size ⟨s.toArray⟩ (k + (Utf8.decode (⟨s.toArray⟩ : ByteArray) k).2)).heap.size = wr.heap.size := by simp [World.iterAt]
        have HC1 := Lib.hid (HH.out ((Utf8.decode (⟨s.toArray⟩ : ByteArray) k).1 : Int) (by omega) (by omega) (wr.iterAt w.heap.size ⟨s.toArray⟩ (k + (Utf8.decode (⟨s.toArray⟩ : ByteArray) k).2)))
        generalize wr.iterAt w.heap.size ⟨s.toArray⟩ (k + (Utf8.decode (⟨s.toArray⟩ : ByteArray) k).2) = wx at *
        generalize Utf8.decode (⟨s.toArray⟩ : ByteArray) k = dk at *
        obtain ⟨dr, dn⟩ := dk
        have HN2 : Hid (k + dn ≤ s.length ∧ Lib.NoAny s cs (k + dn)) := Lib.hid (Gl.noAny_skip HC.out HN.out hs hdh.2 hsk.out)
        have h1n := hdh.2
        clear hdh hdl
        go_wp2_with (go_at_call 115; go_must (refine (HC1.out).mono ?_; rintro e w1 ⟨rfl, hbb⟩; have hz1 := hbb.size))
        go_roundw
        case rel => exact ⟨k + dn, HN2.out.1, (hbb.block _ (by omega)).trans hit1, Lib.hid HN2.out.2, Lib.hid (hb1.out.trans (hbb.mono (by omega)))⟩
        case measure =>
          have e1 := (hbb.block w.heap.size (by omega)).trans hit1
          simp [World.iterPos, e1, hit]; omega
    · obtain rfl : k = s.length := by omega
      have hnx : ∀ ty, (Instr.next (.pointer (some ⟨w.heap.size, 0, none⟩)) true ty).run Tryz.prog wr = _ := fun ty => Lib.run_next_end_at wr w.heap.size ⟨s.toArray⟩ s.length ty hit (by omega)
      have HQ : Hid (R = -1) := Lib.hid (by rw [← HE.out]; exact Lib.indexAny_none HN.out)
      go_wp2
      go_ret
      exact ⟨Gl.ret_i HQ.out.symm, HB.out⟩

theorem indexAny_three (cs : List UInt8) (hc3 : Gl.Three ⟨cs.toArray⟩) (s : List UInt8) (hl : s.length ≤ 4294967270) (w : World) :
    Calls Tryz.prog 84 #[.string ⟨s.toArray⟩, .string ⟨cs.toArray⟩] w fun e w' => e = .returned (.int .i64 (Gl.ix cs s)) ∧ Below w.heap.size w w' := by
  by_cases h8 : s.length ≤ 8
  · exact indexAny_short cs hc3 s h8 w
  · refine (Tryz.strings_IndexAny_long (zero_of_info (n := 256) (by kernel_rfl)).1 ⟨s.toArray⟩ ⟨cs.toArray⟩ w (by rw [hc3.1]; omega) (by show 8 < s.toArray.size; simp; omega) (by show s.toArray.size < _; simp; omega) (by rw [hc3.1]; omega) (fun j b hb => hc3.2 b (List.mem_of_getElem? hb))).mono ?_
    rintro e w' ⟨rfl, rfl⟩
    refine ⟨?_, ((Below.refl _ _).alloc (Nat.le_refl _) _).alloc (by simp) _⟩
    show Ending.returned (.int .i64 (Lib.indexAny s.toArray.toList cs.toArray.toList)) = _
    rw [List.toList_toArray, List.toList_toArray, Gl.ix_eq]
theorem index_brace (s : List UInt8) (hl : s.length ≤ 4294967270) (w : World) :
    Calls Tryz.prog 84 #[.string ⟨s.toArray⟩, .string ⟨#[123, 44, 125]⟩] w fun e w' => e = .returned (.int .i64 (Gl.ix [123, 44, 125] s)) ∧ Below w.heap.size w w' :=
  indexAny_three [123, 44, 125] ⟨rfl, by decide⟩ s hl w
theorem index_special (s : List UInt8) (hl : s.length ≤ 4294967270) (w : World) :
    Calls Tryz.prog 84 #[.string ⟨s.toArray⟩, .string ⟨#[42, 63, 91]⟩] w fun e w' => e = .returned (.int .i64 (Gl.ix [42, 63, 91] s)) ∧ Below w.heap.size w w' :=
  indexAny_three [42, 63, 91] ⟨rfl, by decide⟩ s hl w
end Go.Proofs.YtfmbbhcjnidcbaaGreatDoor
