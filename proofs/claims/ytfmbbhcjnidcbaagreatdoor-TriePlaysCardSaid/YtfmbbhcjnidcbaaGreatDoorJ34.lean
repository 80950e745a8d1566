/-
  GlExp: CONTRACTS: chapter 9: the program's Expand.
  GlLawP: PLAIN: chapter 9's laws: what the plain patterns match, what they are expanded to.
-/
import Derived.Test.YtfmbbhcjnidcbaaGreatDoorJ31
import Derived.Test.YtfmbbhcjnidcbaaGreatDoorJ33

namespace Go.Proofs.YtfmbbhcjnidcbaaGreatDoor
open Go.RowKit
open Me

namespace Gl
theorem Gr.len {b : Bool} {t : List UInt8} {L : List (List UInt8)} (h : Gr b t L) : ∀ x ∈ L, x.length ≤ t.length := by
  have cmb : ∀ {A B : List (List UInt8)} {m n : Nat}, (∀ x ∈ A, x.length ≤ m) → (∀ x ∈ B, x.length ≤ n) → ∀ x ∈ comb A B, x.length ≤ m + n := by
    intro A B m n hA hB x hx
    unfold comb at hx
    obtain ⟨a, ha, hx⟩ := List.mem_flatMap.1 hx
    obtain ⟨c, hc, rfl⟩ := List.mem_map.1 hx
    rw [List.length_append]
    have := hA a ha
    have := hB c hc
    omega
  induction h with
  | @plain p _ =>
    intro x hx
    obtain rfl : x = p := by simpa using hx
    exact Nat.le_refl _
  | @group p g M r R _ _ _ ih1 ih2 =>
    intro x hx
    have := cmb (m := p.length) (fun y hy => by obtain rfl : y = p := by simpa using hy
                                                exact Nat.le_refl _) (cmb ih1 ih2) x hx
    simp only [List.length_append, List.length_cons]
    omega
  | one _ ih => exact ih
  | @more t L g M _ _ ih1 ih2 =>
    intro x hx
    rw [List.length_append, List.length_cons]
    rcases List.mem_append.1 hx with hx | hx
    · have := ih1 x hx; omega
    · have := ih2 x hx; omega
/-- Which error there is. -/
def expErr (s : List UInt8) (L : List (List UInt8)) : Int := if 4096 < s.length ∨ bal 0 s = false then 8 else if 512 < L.length then 13 else if L.all resOk then 0 else 8
def GaveE (w : World) (err : Int) (L : List (List UInt8)) (e : Ending) (w' : World) : Prop :=
  Below w.heap.size w w' ∧ ((err = 0 ∧ ∃ v, e = .returned (.tuple #[v, .int .i64 0]) ∧ OwnS w.heap.size w' v L) ∨ (err ≠ 0 ∧ e = .returned (.tuple #[.slice none 0 0, .int .i64 err])))
theorem GaveE.no {w w' : World} {err bad : Int} {L : List (List UInt8)} (hb : Below w.heap.size w w') (h : err = bad) (h0 : bad ≠ 0) : GaveE w err L (.returned (.tuple #[.slice none 0 0, .int .i64 bad])) w' := ⟨hb, .inr ⟨by rw [h]; exact h0, by rw [h]⟩⟩
theorem GaveE.yes {w w' : World} {err : Int} {L : List (List UInt8)} {v : Value} (hb : Below w.heap.size w w') (h : err = 0) (ho : OwnS w.heap.size w' v L) : GaveE w err L (.returned (.tuple #[v, .int .i64 0])) w' := ⟨hb, .inl ⟨h, v, rfl, ho⟩⟩
/-- The row of results, so far. -/
def part (L : List (List UInt8)) (i : Nat) : Array Value := (byS (L.take i ++ List.replicate (L.length - i) [])).toArray
theorem part_set (L : List (List UInt8)) (i : Nat) (h : i < L.length) : (part L i).setIfInBounds i (.string ⟨(L[i]).toArray⟩) = part L (i + 1) := by
  have e : L.length - i = L.length - (i + 1) + 1 := by omega
  have hl : (L.take i).length = i := by rw [List.length_take]; omega
  unfold part
  rw [List.setIfInBounds_toArray]
  congr 1
  unfold byS
  rw [e, List.replicate_succ, List.take_succ_eq_append_getElem h, List.map_append, List.map_append, List.map_append, List.map_cons]
  rw [List.set_append, if_neg (by rw [List.length_map, hl]; omega), List.length_map, hl, Nat.sub_self]
  simp
theorem part_get (L : List (List UInt8)) (i : Nat) (h : i < L.length) : (part L i)[i]? = some (.string ⟨#[]⟩) := by
  have e : L.length - i = L.length - (i + 1) + 1 := by omega
  have hl : (L.take i).length = i := by rw [List.length_take]; omega
  unfold part byS
  rw [List.getElem?_toArray, List.map_append, List.getElem?_append_right (by rw [List.length_map, hl]; exact Nat.le_refl _), List.length_map, hl, Nat.sub_self, e, List.replicate_succ]
  rfl
theorem part_end (L : List (List UInt8)) : part L L.length = (byS L).toArray := by
  unfold part; rw [List.take_length, Nat.sub_self]; simp
theorem part_zero (L : List (List UInt8)) : madeCells #[.string ⟨#[]⟩] L.length = part L 0 := by
  unfold part madeCells byS
  apply Array.ext_getElem?
  intro j
  by_cases h : j < L.length
  · simp [h, Nat.mod_one]
  · simp [h]
end Gl

theorem make_strs (n : Int) (h0 : 0 ≤ n) (h9 : n ≤ 4294967300) (W : World) :
    (Instr.makeSlice 27 (.int .i64 n) (.int .i64 n)).run Tryz.prog W = .ok (.slice (some ⟨W.heap.size, 0, none⟩) n.toNat n.toNat) (W.alloc (.cells (madeCells #[.string ⟨#[]⟩] n.toNat) 9)) := by
  obtain ⟨i0, hi, hz0, hz1, hz2⟩ := info_parts strinfoN
  have h := run_make (P := Tryz.prog) W 27 9 i0 _ Tryz.underlying27 hi hz0 .i64 .i64 n n h0 (Int.le_refl _) (by rw [hz2]; omega) (by omega)
  rw [hz1, Nat.mul_one] at h
  rw [h]
  rfl

set_option maxRecDepth 100000 in
set_option maxHeartbeats 4000000 in
theorem expand_any (s : List UInt8) (L : List (List UInt8)) (hgr : Gl.bal 0 s = true → Gl.Gr false s L) (hl : s.length ≤ 4294967270) (w : World) (hm : Mx w) :
    Calls Tryz.prog 39 #[.string ⟨s.toArray⟩] w (Gl.GaveE w (Gl.expErr s L) L) := by
  have hs : (⟨s.toArray⟩ : ByteArray).size = s.length := by show s.toArray.size = _; simp
  have HBal := Lib.hid (isBalanced_any s hl)
  by_cases h4 : 4096 < s.length
  · have h4' : (4096 : Int) < (s.length : Int) := by omega
    have HE : Hid (Gl.expErr s L = 8) := Lib.hid (by unfold Gl.expErr; rw [if_pos (.inl h4)])
    clear h4
    go_enter Tryz.func39, Tryz.ntmps39
    go_wp2_with fail
    ((try simp only [Exit.inBlock, Exit.then]); refine bodyPost_ret (results_tmp2 rfl _ _ _) rfl ?_)
    exact Gl.GaveE.no (Below.refl _ _) HE.out (by decide)
  have h4' : ¬ (4096 : Int) < (s.length : Int) := by omega
  cases hbal : Gl.bal 0 s
  · have HE : Hid (Gl.expErr s L = 8) := Lib.hid (by unfold Gl.expErr; rw [if_pos (.inr hbal)])
    rw [hbal] at HBal
    clear h4 hbal hgr
    go_enter Tryz.func39, Tryz.ntmps39
    go_wp2_with (go_at_call 61; go_must (refine (HBal.out _).mono ?_; rintro e w1 ⟨rfl, hw1⟩; rw [hw1]))
    ((try simp only [Exit.inBlock, Exit.then]); refine bodyPost_ret (results_tmp2 rfl _ _ _) rfl ?_)
    exact Gl.GaveE.no (Below.refl _ _) HE.out (by decide)
  have hg := hgr hbal
  rw [hbal] at HBal
  have HRd := Lib.hid fun W => readRow_any s L hg hl W
  by_cases h5 : 512 < L.length
  · have HE : Hid (Gl.expErr s L = 13) := Lib.hid (by unfold Gl.expErr; rw [if_neg (by rw [hbal]; rintro (h | h); exact h4 h; cases h), if_pos h5])
    have HLi : Hid (∀ k : Nat, k = Gl.lim L.length → k = 513) := Lib.hid fun k h => by rw [h]; exact Gl.lim_gt h5
    clear h4 hbal hgr hg h5
    go_enter Tryz.func39, Tryz.ntmps39
    go_wp2_with first
      | (go_at_call 61; go_must (refine (HBal.out _).mono ?_; rintro e w1 ⟨rfl, hw1⟩; rw [hw1]))
      | (go_at_call 62; go_must (refine (HRd.out _).mono ?_; rintro e w2 ⟨A, m, c, k, rfl, ⟨d, hrm⟩, hb2⟩; obtain rfl := HLi.out k hrm.lim.1))
    ((try simp only [Exit.inBlock, Exit.then]); refine bodyPost_ret (results_tmp2 rfl _ _ _) rfl ?_)
    exact Gl.GaveE.no (hb2.alloc hb2.size _) HE.out (by decide)
  have HLk : Hid (∀ k : Nat, k = Gl.lim L.length → k = L.length) := Lib.hid fun k h => by rw [h]; exact Gl.lim_id (by omega)
  have HE : Hid (Gl.expErr s L = if L.all Gl.resOk then 0 else 8) := Lib.hid (by unfold Gl.expErr; rw [if_neg (by rw [hbal]; rintro (h | h); exact h4 h; cases h), if_neg h5])
  have HBad : Hid (∀ i (h : i < L.length), Gl.resOk L[i] = false → Gl.expErr s L = 8) := Lib.hid fun i h hb => by rw [HE.out, Gl.all_bad h hb]; rfl
  have HGood : Hid ((∀ i (h : i < L.length), Gl.resOk L[i] = true) → Gl.expErr s L = 0) := Lib.hid fun h => by rw [HE.out, Gl.all_good h]; rfl
  have HLen : Hid (∀ i (h : i < L.length), L[i].length ≤ 4294967270) := Lib.hid fun i h => Nat.le_trans (hg.len _ (List.getElem_mem h)) hl
  have HM : Hid (∀ W, Below w.heap.size w W → Mx W) := Lib.hid fun W h => hm.below h
  have hL9 : (L.length : Int) ≤ 512 := by omega
  have hL5 : ¬ (512 : Int) < (L.length : Int) := by omega
  have hL0 : (0 : Int) ≤ (L.length : Int) := by omega
  have hmk : ∀ W : World, (Instr.makeSlice 27 (.int .i64 (L.length : Int)) (.int .i64 (L.length : Int))).run Tryz.prog W = .ok (.slice (some ⟨W.heap.size, 0, none⟩) L.length L.length) (W.alloc (.cells (Gl.part L 0) 9)) := fun W => by
    have := make_strs (L.length : Int) (by omega) (by omega) W
    rw [Int.toNat_natCast, Gl.part_zero] at this
    exact this
  generalize Gl.expErr s L = err at *
  clear h4 hbal hgr hg h5 HE hm
  go_enter Tryz.func39, Tryz.ntmps39
  go_wp2_with first
    | (go_at_call 61; go_must (refine (HBal.out _).mono ?_; rintro e w1 ⟨rfl, hw1⟩; rw [hw1]))
    | (go_at_call 62; go_must (refine (HRd.out _).mono ?_; rintro e w2 ⟨A, m, c, k, rfl, ⟨d, hrm⟩, hb2⟩; obtain rfl := HLk.out k hrm.lim.1; have HRm := Lib.hid hrm; have HB2 := Lib.hid hb2; clear hrm hb2))
  have hR4 : RowAt ((w2.alloc (.cells #[.slice A m c, .int .i64 L.length] 101)).alloc (.cells (Gl.part L 0) 9)) w2.heap.size 101 #[.slice A m c, .int .i64 L.length] := (RowAt.new w2 _ _).alloc _
  have hR6 : RowAt ((w2.alloc (.cells #[.slice A m c, .int .i64 L.length] 101)).alloc (.cells (Gl.part L 0) 9)) (w2.heap.size + 1) 9 (Gl.part L 0) := by
    have := RowAt.new (w2.alloc (.cells #[.slice A m c, .int .i64 L.length] 101)) (Gl.part L 0) 9
    simpa using this
  have hRMx : Gl.RowM ((w2.alloc (.cells #[.slice A m c, .int .i64 L.length] 101)).alloc (.cells (Gl.part L 0) 9)) (fun b => b < w2.heap.size) d ⟨.slice A m c, L.length, L⟩ :=
    HRm.out.more (fun B xs hx => by
      have h1 : Rd w2 (fun b => b < w2.heap.size) B xs := hx.mono fun i hi _ => hi
      exact rd_below (((Below.refl _ _).alloc (Nat.le_refl _) _).alloc (by simp) _) B xs h1) (Nat.le_refl _)
  have hBx : Below w2.heap.size w2 ((w2.alloc (.cells #[.slice A m c, .int .i64 L.length] 101)).alloc (.cells (Gl.part L 0) 9)) := ((Below.refl _ _).alloc (Nat.le_refl _) _).alloc (by simp) _
  have H0 := Lib.hid (And.intro hR4 (And.intro hR6 (And.intro hRMx hBx)))
  clear hR4 hR6 hRMx hBx HRm hmk
  generalize (w2.alloc (.cells #[.slice A m c, .int .i64 L.length] 101)).alloc (.cells (Gl.part L 0) 9) = ws at *
  go_loopw [30] (fun x wr => ∃ i : Nat, x = .int .i64 i ∧ i ≤ L.length ∧ Hid (∀ j (h : j < L.length), j < i → Gl.resOk L[j] = true) ∧ Hid (RowAt wr w2.heap.size 101 #[.slice A m c, .int .i64 L.length] ∧ RowAt wr (w2.heap.size + 1) 9 (Gl.part L i) ∧ Gl.RowM wr (fun b => b < w2.heap.size) d ⟨.slice A m c, L.length, L⟩ ∧ Below w2.heap.size w2 wr)) (fun x _ => L.length - (intOf x).toNat)
  case atStart => exact ⟨0, rfl, Nat.zero_le _, Lib.hid fun j _ h => absurd h (by omega), H0⟩
  case round =>
    obtain ⟨i, rfl, hi, HD, HS⟩ := hrel
    have h2r := HS.out.1.lt
    have h6r := HS.out.2.1.lt
    have hw2 := HB2.out.size
    by_cases hlt : i < L.length
    · have hil : (i : Int) < (L.length : Int) := by omega
      have hi0 : (0 : Int) ≤ (i : Int) := by omega
      have d0 := (HS.out.1.cell 0).trans (show #[Value.slice A m c, .int .i64 L.length][0]? = some (.slice A m c) from rfl)
      have d1 := (HS.out.1.cell 1).trans (show #[Value.slice A m c, .int .i64 L.length][1]? = some (.int .i64 L.length) from rfl)
      have hbl0 := (BldK.of (Bld.new wr))
      have hxl := HLen.out i hlt
      have HW := Lib.hid (writers d wr.heap.size wr.heap.size [] (wr.alloc (.cells #[.pointer none, .slice none 0 0] 107)) A m c L.length L i L[i] (List.getElem?_eq_getElem hlt)
        (HS.out.2.2.1.more (fun B xs hx => by
          have h1 : Rd wr (fun b => b < wr.heap.size) B xs := hx.mono fun i hi _ => hi
          exact rd_below ((Below.refl _ _).alloc (Nat.le_refl _) _) B xs h1) (Nat.le_refl _)) hbl0 (by simp) (by omega) (by simp; omega))
      have HBadi := Lib.hid (HBad.out i hlt)
      have HDn : Hid (Gl.resOk L[i] = true → ∀ j (h : j < L.length), j < i + 1 → Gl.resOk L[j] = true) := Lib.hid fun hc j h hj => by
        by_cases e : j = i
        · subst e; exact hc
        · exact HD.out j h (by omega)
      have HIs := Lib.hid fun W (h : Mx W) => isResult_any L[i] hxl W h
      have HPs := Lib.hid (Gl.part_set L i hlt)
      have HPg := Lib.hid (Gl.part_get L i hlt)
      rw [List.nil_append] at HW
      generalize L[i] = x at *
      clear hbl0
      cases hok : Gl.resOk x
      · rw [hok] at HIs
        have HQ := Lib.hid (HBadi.out hok)
        clear hok
        go_wp2_with first
          | (go_at_call 63; go_must (refine (HW.out).mono ?_; rintro e w3 ⟨rfl, hk3, hb3, ho3⟩))
          | (go_at_call 64; go_must (refine (string_k hk3 (Nat.le_trans (by simp) hb3.size)).mono ?_; rintro e w4 ⟨rfl, hb4, ho4⟩; have hBB : Below wr.heap.size wr w4 := (((Below.refl wr.heap.size wr).alloc (Nat.le_refl _) _).trans hb3).trans hb4; have h6 := HS.out.2.1.below hBB h6r; have c6 : w4.cell? ⟨w2.heap.size + 1, i, none⟩ = some (.string ⟨#[]⟩) := (h6.cell i).trans HPg.out; have f6 := h6.frozen i; have l6 := h6.lt; have hSy : RowAt (w4.setCell ⟨w2.heap.size + 1, i, none⟩ (.string ⟨x.toArray⟩)) w2.heap.size 101 #[.slice A m c, .int .i64 L.length] ∧ RowAt (w4.setCell ⟨w2.heap.size + 1, i, none⟩ (.string ⟨x.toArray⟩)) (w2.heap.size + 1) 9 (Gl.part L (i + 1)) ∧ Gl.RowM (w4.setCell ⟨w2.heap.size + 1, i, none⟩ (.string ⟨x.toArray⟩)) (fun b => b < w2.heap.size) d ⟨.slice A m c, L.length, L⟩ ∧ Below w2.heap.size w2 (w4.setCell ⟨w2.heap.size + 1, i, none⟩ (.string ⟨x.toArray⟩)) := ⟨(HS.out.1.below hBB h2r).far (Nat.ne_of_lt (Nat.lt_succ_self _)) _, (by have := h6.set_ i (.string ⟨x.toArray⟩); rw [HPs.out] at this; exact this), HS.out.2.2.1.more (fun B xs hx => rd_below ((hBB.mono (by omega)).setCell (Nat.le_succ _) _) B xs hx) (Nat.le_refl _), (HS.out.2.2.2.trans (hBB.mono (by omega))).setCell (Nat.le_succ _) _⟩; have hBy : Hid (Below w.heap.size w (w4.setCell ⟨w2.heap.size + 1, i, none⟩ (.string ⟨x.toArray⟩))) := Lib.hid (HB2.out.trans (hSy.2.2.2.mono hw2)); have HSy := Lib.hid hSy; clear hSy hBB h6 hb4 ho4))
          | (go_at_call 65; go_must (refine (HIs.out _ (HM.out _ hBy.out)).mono ?_; rintro e w5 ⟨rfl, hb5⟩))
        ((try simp only [Exit.inBlock, Exit.then]); refine bodyPost_ret (results_tmp2 rfl _ _ _) rfl ?_)
        exact Gl.GaveE.no (hBy.out.trans (hb5.mono hBy.out.size)) HQ.out (by decide)
      · rw [hok] at HIs
        have HQ := Lib.hid (HDn.out hok)
        clear hok
        go_wp2_with first
          | (go_at_call 63; go_must (refine (HW.out).mono ?_; rintro e w3 ⟨rfl, hk3, hb3, ho3⟩))
          | (go_at_call 64; go_must (refine (string_k hk3 (Nat.le_trans (by simp) hb3.size)).mono ?_; rintro e w4 ⟨rfl, hb4, ho4⟩; have hBB : Below wr.heap.size wr w4 := (((Below.refl wr.heap.size wr).alloc (Nat.le_refl _) _).trans hb3).trans hb4; have h6 := HS.out.2.1.below hBB h6r; have c6 : w4.cell? ⟨w2.heap.size + 1, i, none⟩ = some (.string ⟨#[]⟩) := (h6.cell i).trans HPg.out; have f6 := h6.frozen i; have l6 := h6.lt; have hSy : RowAt (w4.setCell ⟨w2.heap.size + 1, i, none⟩ (.string ⟨x.toArray⟩)) w2.heap.size 101 #[.slice A m c, .int .i64 L.length] ∧ RowAt (w4.setCell ⟨w2.heap.size + 1, i, none⟩ (.string ⟨x.toArray⟩)) (w2.heap.size + 1) 9 (Gl.part L (i + 1)) ∧ Gl.RowM (w4.setCell ⟨w2.heap.size + 1, i, none⟩ (.string ⟨x.toArray⟩)) (fun b => b < w2.heap.size) d ⟨.slice A m c, L.length, L⟩ ∧ Below w2.heap.size w2 (w4.setCell ⟨w2.heap.size + 1, i, none⟩ (.string ⟨x.toArray⟩)) := ⟨(HS.out.1.below hBB h2r).far (Nat.ne_of_lt (Nat.lt_succ_self _)) _, (by have := h6.set_ i (.string ⟨x.toArray⟩); rw [HPs.out] at this; exact this), HS.out.2.2.1.more (fun B xs hx => rd_below ((hBB.mono (by omega)).setCell (Nat.le_succ _) _) B xs hx) (Nat.le_refl _), (HS.out.2.2.2.trans (hBB.mono (by omega))).setCell (Nat.le_succ _) _⟩; have hBy : Hid (Below w.heap.size w (w4.setCell ⟨w2.heap.size + 1, i, none⟩ (.string ⟨x.toArray⟩))) := Lib.hid (HB2.out.trans (hSy.2.2.2.mono hw2)); have HSy := Lib.hid hSy; clear hSy hBB h6 hb4 ho4))
          | (go_at_call 65; go_must (refine (HIs.out _ (HM.out _ hBy.out)).mono ?_; rintro e w5 ⟨rfl, hb5⟩))
        go_roundw
        case rel =>
          refine ⟨i + 1, by go_num, by omega, HQ, Lib.hid ⟨HSy.out.1.below hb5 HSy.out.1.lt, HSy.out.2.1.below hb5 HSy.out.2.1.lt, HSy.out.2.2.1.more (fun B xs hx => rd_below (hb5.mono (by have := HSy.out.2.2.2.size; omega)) B xs hx) (Nat.le_refl _), HSy.out.2.2.2.trans (hb5.mono HSy.out.2.2.2.size)⟩⟩
        case measure => simp [intOf]; omega
    · obtain rfl : i = L.length := by omega
      have HQ := Lib.hid (HGood.out fun j h => HD.out j h h)
      have HOwn : Hid (OwnS w.heap.size wr (.slice (some ⟨w2.heap.size + 1, 0, none⟩) L.length L.length) L) := Lib.hid (by
        have h6 := HS.out.2.1
        rw [Gl.part_end] at h6
        refine ⟨by rw [byS_len, Nat.mul_one], .inr ⟨w2.heap.size + 1, L.length, (byS L).toArray, rfl, by omega, h6, Nat.le_refl _, by unfold maxLen; omega, by simp [byS_len], ?_⟩⟩
        rw [Nat.mul_one, List.toList_toArray]
        exact List.take_of_length_le (by rw [byS_len]; exact Nat.le_refl _))
      have HBw : Hid (Below w.heap.size w wr) := Lib.hid (HB2.out.trans (HS.out.2.2.2.mono hw2))
      go_wp2_with fail
      ((try simp only [Exit.inBlock, Exit.then]); refine bodyPost_ret (results_tmp2 rfl _ _ _) rfl ?_)
      exact Gl.GaveE.yes HBw.out HQ.out HOwn.out
end Go.Proofs.YtfmbbhcjnidcbaaGreatDoor

namespace Go.Proofs.YtfmbbhcjnidcbaaGreatDoor
open Go.RowKit
open Me

namespace Gl
theorem ok_ne {b c : UInt8} (h : Nm.okB b = true) (hc : Nm.okB c = false) : b ≠ c := by rintro rfl; rw [h] at hc; cases hc
theorem toks_lits (p r : List UInt8) (h : p.all Nm.okB = true) : toks none (p ++ r) = (toks none r).map (p.map El.lit ++ ·) := by
  induction p with
  | nil => cases h2 : toks none r <;> simp [h2]
  | cons b p ih =>
    rw [List.all_cons, Bool.and_eq_true] at h
    have n1 := ok_ne h.1 (c := 42) (by decide)
    have n2 := ok_ne h.1 (c := 63) (by decide)
    have n3 := ok_ne h.1 (c := 91) (by decide)
    rw [List.cons_append, toks, if_neg n1, if_neg n2, if_neg n3, if_pos h.1, ih h.2]
    cases toks none r <;> rfl
theorem mt_lits (p : List UInt8) (q : List El) (s : List UInt8) : mt (p.map El.lit ++ q) s = (decide (s.take p.length = p) && mt q (s.drop p.length)) := by
  induction p generalizing s with
  | nil => simp
  | cons b p ih =>
    cases s with
    | nil => show mt (El.lit b :: _) [] = _; rw [mt_end rfl]; simp
    | cons c t =>
      show mt (El.lit b :: _) (c :: t) = _
      rw [mt_one rfl]
      show (decide (b = c) && mt (p.map El.lit ++ q) t) = _
      rw [ih]
      by_cases e : b = c
      · subst e; simp
      · have e' : ¬ c = b := fun h => e h.symm
        simp [e, e']
theorem gm_plain (p s : List UInt8) (h : p.all Nm.okB = true) : gm p s = decide (s = p) := by
  have := toks_lits p [] h
  rw [List.append_nil] at this
  unfold gm
  rw [this]
  show mt (p.map El.lit ++ []) s = _
  rw [mt_lits]
  by_cases e : s = p
  · subst e; simp; rfl
  · rw [decide_eq_false e]
    by_cases e1 : s.take p.length = p
    · rw [decide_eq_true e1, Bool.true_and]
      show (s.drop p.length).isEmpty = false
      cases hd : s.drop p.length with
      | nil =>
        have := List.take_append_drop p.length s
        rw [hd, e1, List.append_nil] at this
        exact absurd this.symm e
      | cons _ _ => rfl
    · rw [decide_eq_false e1, Bool.false_and]
theorem simple_plain (p : List UInt8) (h : p.all Nm.okB = true) : simple p = true := by
  have := toks_lits p [] h
  rw [List.append_nil] at this
  unfold simple
  rw [this]; rfl
theorem pt_plain (s : List UInt8) (h : plainB s = true) : (Nm.pt s).all (fun p => p.all Nm.okB) = true := by
  induction s with
  | nil => rfl
  | cons b r ih =>
    unfold plainB at h ih
    rw [List.all_cons, Bool.and_eq_true] at h
    have ih := ih h.2
    rw [Nm.pt]
    by_cases e : b = 46
    · rw [if_pos e, List.all_cons, ih]; rfl
    · rw [if_neg e]
      have hb : Nm.okB b = true := by have := h.1; simp [e] at this; exact this
      cases hp : Nm.pt r with
      | nil => simp [hb]
      | cons p q =>
        rw [hp] at ih
        simp only [List.all_cons] at ih ⊢
        rw [hb, Bool.true_and]
        exact ih
theorem noSp_plain (s : List UInt8) (h : plainB s = true) : noSp s = true := by
  unfold plainB at h
  unfold noSp
  rw [List.all_eq_true] at *
  intro b hb
  have := h b hb
  rw [Bool.or_eq_true] at this
  rcases this with e | e
  · have e : b = 46 := by simpa using e
    subst e; decide
  · have n1 := ok_ne e (c := 123) (by decide)
    have n2 := ok_ne e (c := 125) (by decide)
    have n3 := ok_ne e (c := 44) (by decide)
    simp [n1, n2, n3]
theorem resOk_plain (s : List UInt8) (h : plainB s = true) (h0 : 0 < s.length) : resOk s = true := by
  unfold resOk
  have e : s.isEmpty = false := by cases s with
    | nil => cases h0
    | cons _ _ => rfl
  rw [e]
  have := pt_plain s h
  rw [List.all_eq_true] at this
  show (true && (Nm.pt s).all simple) = true
  rw [Bool.true_and, List.all_eq_true]
  intro p hp
  exact simple_plain p (this p hp)
theorem expErr_plain (s : List UInt8) (h : plainB s = true) (h0 : 0 < s.length) (h9 : s.length ≤ 200) : expErr s [s] = 0 := by
  have hb : bal 0 s = true := by
    have := (Gr.plain (noSp_plain s h)).bal 0 [] (fun e => by cases e)
    rw [List.append_nil] at this
    rw [this]; rfl
  unfold expErr
  rw [if_neg (by rw [hb]; rintro (e | e); omega; cases e), if_neg (by simp), List.all_cons, resOk_plain s h h0]
  rfl
/-! ## stars -/
theorem mt_star2 (q : List El) (s : List UInt8) : mt (.star :: .star :: q) s = mt (.star :: q) s := by
  rw [mt_star, mt_star]
  apply eq_of_iff
  rw [tails_iff, tails_iff]
  constructor
  · rintro ⟨k, hk, h⟩
    rw [mt_star, tails_iff] at h
    obtain ⟨j, hj, h⟩ := h
    rw [List.length_drop] at hj
    exact ⟨k + j, by omega, by rw [← List.drop_drop]; exact h⟩
  · rintro ⟨k, hk, h⟩
    exact ⟨k, hk, by rw [mt_star, tails_iff]; exact ⟨0, by omega, h⟩⟩
theorem mt_tail (b : List UInt8) (s : List UInt8) : mt (.star :: b.map El.lit) s = (decide (b.length ≤ s.length) && decide (s.drop (s.length - b.length) = b)) := by
  apply eq_of_iff
  rw [mt_star, tails_iff, Bool.and_eq_true, decide_eq_true_eq, decide_eq_true_eq]
  have key : ∀ t : List UInt8, mt (b.map El.lit) t = decide (t = b) := by
    intro t
    have := mt_lits b [] t
    rw [List.append_nil] at this
    rw [this]
    by_cases e : t = b
    · subst e; simp; rfl
    · rw [decide_eq_false e]
      by_cases e1 : t.take b.length = b
      · rw [decide_eq_true e1, Bool.true_and]
        show (t.drop b.length).isEmpty = false
        cases hd : t.drop b.length with
        | nil =>
          have := List.take_append_drop b.length t
          rw [hd, e1, List.append_nil] at this
          exact absurd this.symm e
        | cons _ _ => rfl
      · rw [decide_eq_false e1, Bool.false_and]
  constructor
  · rintro ⟨k, hk, h⟩
    rw [key, decide_eq_true_eq] at h
    have hl : s.length - k = b.length := by rw [← h, List.length_drop]
    exact ⟨by omega, by rw [show s.length - b.length = k by omega]; exact h⟩
  · rintro ⟨h1, h2⟩
    exact ⟨s.length - b.length, by omega, by rw [key, h2]; simp⟩
def stars (a b s : List UInt8) : Bool := decide (a.length + b.length ≤ s.length) && (decide (s.take a.length = a) && decide (s.drop (s.length - b.length) = b))
theorem stars_eq (a b s : List UInt8) : mt (a.map El.lit ++ (.star :: b.map El.lit)) s = stars a b s := by
  rw [mt_lits, mt_tail, List.length_drop, List.drop_drop]
  unfold stars
  by_cases e : s.take a.length = a
  · have hl : a.length ≤ s.length := by
      have := congrArg List.length e
      rw [List.length_take] at this
      omega
    rw [decide_eq_true e, Bool.true_and, Bool.true_and]
    by_cases e1 : b.length ≤ s.length - a.length
    · rw [decide_eq_true e1, decide_eq_true (show a.length + b.length ≤ s.length by omega), show a.length + (s.length - a.length - b.length) = s.length - b.length by omega]
    · rw [decide_eq_false e1, decide_eq_false (show ¬ a.length + b.length ≤ s.length by omega), Bool.false_and, Bool.false_and]
  · rw [decide_eq_false e, Bool.false_and, Bool.false_and, Bool.and_false]
theorem gm_star1 (a b s : List UInt8) (ha : a.all Nm.okB = true) (hb : b.all Nm.okB = true) : gm (a ++ 42 :: b) s = stars a b s := by
  have h1 := toks_lits a (42 :: b) ha
  have h2 := toks_lits b [] hb
  rw [List.append_nil] at h2
  rw [show toks none (42 :: b) = (toks none b).map (El.star :: ·) from rfl, h2] at h1
  unfold gm
  rw [h1]
  show mt (a.map El.lit ++ (El.star :: (b.map El.lit ++ []))) s = _
  rw [List.append_nil, stars_eq]
theorem gm_star2 (a b s : List UInt8) (ha : a.all Nm.okB = true) (hb : b.all Nm.okB = true) : gm (a ++ 42 :: 42 :: b) s = stars a b s := by
  have h1 := toks_lits a (42 :: 42 :: b) ha
  have h2 := toks_lits b [] hb
  rw [List.append_nil] at h2
  rw [show toks none (42 :: 42 :: b) = ((toks none b).map (El.star :: ·)).map (El.star :: ·) from rfl, h2] at h1
  unfold gm
  rw [h1]
  show mt (a.map El.lit ++ (El.star :: El.star :: (b.map El.lit ++ []))) s = _
  rw [List.append_nil, mt_lits, mt_star2, ← mt_lits, stars_eq]
/-! ## what a call gave, in one form -/
theorem Gave.both {w w' : World} {ok : Bool} {L : List (List UInt8)} {bad : Int} {e : Ending} (h : Gave w ok L bad e w') : ∃ v, e = .returned (.tuple #[v, .int .i64 (if ok then 0 else bad)]) ∧ OwnS w.heap.size w' v (if ok then L else []) ∧ Below w.heap.size w w' := by
  obtain ⟨hb, ⟨rfl, v, rfl, ho⟩ | ⟨rfl, rfl⟩⟩ := h
  · exact ⟨v, rfl, ho, hb⟩
  · exact ⟨_, rfl, OwnS.nil _ _, hb⟩
theorem GaveE.both {w w' : World} {err : Int} {L : List (List UInt8)} {e : Ending} (h : GaveE w err L e w') : ∃ v, e = .returned (.tuple #[v, .int .i64 err]) ∧ OwnS w.heap.size w' v (if err = 0 then L else []) ∧ Below w.heap.size w w' := by
  obtain ⟨hb, ⟨rfl, v, rfl, ho⟩ | ⟨h0, rfl⟩⟩ := h
  · exact ⟨v, rfl, ho, hb⟩
  · exact ⟨_, rfl, by rw [if_neg h0]; exact OwnS.nil _ _, hb⟩
/-! ## the known pattern -/
theorem gr_known : Gr false [97, 46, 123, 98, 44, 99, 123, 100, 44, 125, 125] [[97, 46, 98], [97, 46, 99, 100], [97, 46, 99]] := by
  have h1 : Gr true [100, 44] [[100], []] := Gr.more (t := [100]) (g := []) (Gr.plain rfl) (Gr.one (Gr.plain rfl))
  have h2 : Gr false [99, 123, 100, 44, 125] [[99, 100], [99]] := Gr.group (p := [99]) (g := [100, 44]) (r := []) rfl h1 (Gr.plain rfl)
  have h3 : Gr true [98, 44, 99, 123, 100, 44, 125] [[98], [99, 100], [99]] := Gr.more (t := [98]) (g := [99, 123, 100, 44, 125]) (Gr.plain rfl) (Gr.one h2)
  exact Gr.group (p := [97, 46]) (g := [98, 44, 99, 123, 100, 44, 125]) (r := []) rfl h3 (Gr.plain rfl)
theorem err_known : expErr [97, 46, 123, 98, 44, 99, 123, 100, 44, 125, 125] [[97, 46, 98], [97, 46, 99, 100], [97, 46, 99]] = 0 := by decide +kernel
theorem gm_known : gm [115, 63, 91, 48, 45, 50, 93, 42] [115, 118, 49] = true := by decide +kernel
end Gl
end Go.Proofs.YtfmbbhcjnidcbaaGreatDoor
