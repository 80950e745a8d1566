/-
  TrLaw3: WALKS: chapter 10's laws: the statement on the order in which names come.
  TrLaw4: WALKS: chapter 10's laws: the statement that a name finds itself.
-/
import Derived.Test.YtiolkiikgjedcaaGreatDoorJ42

namespace Go.Proofs.YtiolkiikgjedcaaGreatDoor
open Go.RowKit
open Me
namespace Tr
theorem from_sorted : ∀ (l L : List (List UInt8)), L.Pairwise RN → (l.foldl insV L).Pairwise RN
  | [], _, h => h
  | s :: r, L, h => from_sorted r (insV L s) (by
    unfold insV
    split
    · split
      · exact h
      · rename_i hn; exact ins_sorted h hn
    · exact h)
theorem newL_sorted (l : List (List UInt8)) : (newL l).Pairwise RN := from_sorted l [] List.Pairwise.nil
theorem newL_rev (l : List (List UInt8)) : newL l.reverse = newL l := names_uniq (newL_sorted _) (newL_sorted _) fun t => by rw [mem_newL, mem_newL, List.mem_reverse]
theorem newL_len (l : List (List UInt8)) : (newL l).length ≤ l.length := len_le_of_mem (nodup_of RN.irr (newL_sorted l)) fun t h => ((mem_newL l t).1 h).1
theorem findR_len (s : List UInt8) (T L : List (List UInt8)) : (findR s T L).length ≤ 512 := by
  unfold findR
  split
  · rename_i h
    unfold findErr at h
    split at h
    · rename_i h1; exact absurd h h1
    · split at h
      · cases h
      · omega
  · exact Nat.zero_le _
theorem lenC (L : List (List UInt8)) (k : Nat) : ∀ w0 W b, Own_ w0 W b k L → Calls Tryz.prog 18 #[.pointer (some ⟨b, 0, none⟩)] W fun e w' => e = .returned (.int .i64 L.length) ∧ Below W.heap.size W w' := fun w0 W b h => by
  obtain ⟨c, F, _, ha, _, _⟩ := h
  exact Len_any ha
end Tr

set_option maxRecDepth 100000 in
set_option maxHeartbeats 2000000 in
/-- Behind the loop. -/
theorem turns_walk (n : Nat) (L : List (List UInt8)) (R : List Tr.DH) (er : Int) (s : List UInt8) (l : List (List UInt8)) (A : Option Addr) (c : Nat) (w : World) (hn : l.length = n) (hn6 : n ≤ 60) (hs2 : s.length ≤ 200) (hr : Hid (Rd w (fun _ => True) A (byS l)))
    (HM : Hid (∀ W, Below w.heap.size w W → Mx W)) (hL : L.length ≤ 60) (hR : R.length ≤ 512)
    (HN1 : Hid ((∀ x ∈ l, x.length ≤ 250) → ∀ W, Below w.heap.size w W → Calls Tryz.prog 8 #[.slice A n c] W fun e w' => e = .returned (.pointer (some ⟨W.heap.size, 0, none⟩)) ∧ Tr.Own_ W w' W.heap.size n L))
    (HN2 : Hid ((∀ x ∈ l, x.length ≤ 250) → ∀ W A2 c2, Rd W (fun _ => True) A2 (byS l.reverse) → Mx W → Calls Tryz.prog 8 #[.slice A2 n c2] W fun e w' => e = .returned (.pointer (some ⟨W.heap.size, 0, none⟩)) ∧ Tr.Own_ W w' W.heap.size n L))
    (HF : Hid (∀ w0 W b, Tr.Own_ w0 W b n L → Mx W → Calls Tryz.prog 13 #[.pointer (some ⟨b, 0, none⟩), .string ⟨s.toArray⟩] W fun e w' => ∃ v, e = .returned (.tuple #[v, .int .i64 er]) ∧ Tr.OwnH W.heap.size w' v R ∧ Below W.heap.size W w'))
    (HLl : Hid (∀ x ∈ l, ∀ y : ByteArray, y = ⟨x.toArray⟩ → y.size = x.length)) :
    Calls Tryz.prog 4 #[.slice A n c, .string ⟨s.toArray⟩] w fun e w' => e = .returned (.bool true) ∧ Below w.heap.size w w' := by
  have hs : (⟨s.toArray⟩ : ByteArray).size = s.length := by show s.toArray.size = _; simp
  obtain ⟨i0, hi0, hz0, hz1, hz2⟩ := info_parts strinfoN
  have HI := Lib.hid hi0
  have HZ := Lib.hid (And.intro hz0 (And.intro hz1 hz2))
  have HNm := Lib.hid (Tr.namesC L n)
  have HLe := Lib.hid (Tr.lenC L n)
  have HTx := Lib.hid (fun A A' c c' W => texts_same10 L A A' c c' (by omega) W)
  have HHt := Lib.hid (fun A A' c c' W => hits_same10 R A A' c c' (by omega) W)
  have hn6' : (n : Int) ≤ 60 := by omega
  have hs2' : (s.length : Int) ≤ 200 := by omega
  have hse : (er == er) = true := by simp
  clear hi0 hz0 hz1 hz2
  go_enter Tryz.func4, Tryz.ntmps4
  go_wp2_with fail
  go_loopw [5, 6] (fun mv i wr => ∃ (j : Nat) (v : Value), v = mv ∧ j ≤ n ∧ i = .int .i64 ((j : Int) - 1) ∧ Hid (OwnS w.heap.size wr v (l.drop j).reverse) ∧ Hid (Below w.heap.size w wr) ∧ Hid (∀ x ∈ l.drop j, x.length ≤ 250)) (fun _ i _ => (intOf i + 1).toNat)
  case atStart => exact ⟨n, _, rfl, Nat.le_refl _, by go_num, Lib.hid (by rw [← hn, List.drop_length]; exact OwnS.nil _ _), Lib.hid (Below.refl _ _), Lib.hid (by rw [← hn, List.drop_length]; intro x hx; cases hx)⟩
  case round =>
    obtain ⟨j, v, rfl, hj, rfl, HO, HB, HA⟩ := hrel
    have hbs := HB.out.size
    cases j with
    | succ k =>
      have hkn : k < l.length := by omega
      have ei : ((k + 1 : Nat) : Int) - 1 = (k : Int) := by omega
      have hk0 : (0 : Int) ≤ (k : Int) := by omega
      have hkl : (k : Int) < (n : Int) := by omega
      obtain ⟨lb, lo, rfl, hlb, _, hx⟩ := hr.out.lit k (by rw [byS_len]; exact hkn)
      have ec := (HB.out.cell (p := ⟨lb, lo + k, none⟩) hlb).trans (hx k _ (byS_get l k hkn))
      have hrev : (l.drop k).reverse = (l.drop (k + 1)).reverse ++ [l[k]] := by rw [List.drop_eq_getElem_cons hkn, List.reverse_cons]
      have hml : ((l.drop (k + 1)).reverse).length ≤ 60 := by rw [List.length_reverse, List.length_drop]; omega
      have hsz := HLl.out l[k] (List.getElem_mem hkn) _ rfl
      have HRv := Lib.hid hrev
      have HA2 : Hid (l[k].length ≤ 250 → ∀ x ∈ l.drop k, x.length ≤ 250) := Lib.hid fun h x hx => by
        rw [List.drop_eq_getElem_cons hkn] at hx
        exact (List.mem_cons.1 hx).elim (fun e => e ▸ h) (HA.out x)
      rw [ei]
      clear hx hrev
      generalize (l.drop (k + 1)).reverse = M at *
      generalize l[k] = x at *
      by_cases h25 : 250 < x.length
      · have h25' : (250 : Int) < (x.length : Int) := by omega
        clear HO HRv
        go_wp2_with fail
        go_ret
        exact ⟨rfl, HB.out⟩
      · have h25' : ¬ (250 : Int) < (x.length : Int) := by omega
        have HA3 := Lib.hid (HA2.out (by omega))
        have HOa := Lib.hid (HO.out.below ((Below.refl _ _).alloc (Nat.le_refl _) (.cells #[.string ⟨x.toArray⟩] 9)))
        have HBa := Lib.hid (HB.out.alloc hbs (.cells #[.string ⟨x.toArray⟩] 9))
        go_wp2_with (at_builtin; refine wpList_push _ rfl _ _ 27 rfl w.heap.size 9 i0 _ 1 16 Tryz.underlying27 HI.out HZ.out.1 HZ.out.2.1 HZ.out.2.2 rfl (by decide) v M.length (byS M) rfl HOa.out ⟨wr.heap.size, 0, none⟩ 1 1 [.string ⟨x.toArray⟩] rfl rfl (cells_new wr [.string ⟨x.toArray⟩] 9) (fun u hu => by rw [List.mem_singleton.1 hu]; rfl) (by decide) (by unfold maxLen; omega) (by omega) (by simp; omega) ?_; intro v4 w4 hA4; have HB4 := Lib.hid (Tr.App.below hA4 HBa.out (by simp; omega)); have HO4 := Lib.hid (Tr.way_of hA4); clear hA4)
        go_roundw
        case rel => exact ⟨k, v4, rfl, by omega, by go_num, by rw [HRv.out]; exact HO4, HB4, HA3⟩
        case measure => first | (simp [intOf]; done) | (simp [intOf]; omega)
    | zero =>
      rw [List.drop_zero] at HO HA
      have HM1 := Lib.hid (HN1.out HA.out)
      have HM2 := Lib.hid (HN2.out HA.out)
      obtain ⟨A2, c2, rfl, hr2⟩ := rd_own HO.out
      rw [List.length_reverse, hn]
      have HR2 := Lib.hid hr2
      clear hr2 HO
      have ez : ((0 : Nat) : Int) - 1 = -1 := by omega
      rw [ez]
      go_wp2_with first
        | (have hq := HRm.out; go_at_call 8; (refine (HM2.out _ _ _ hq (HM.out _ hB1)).mono ?_; rintro e w2 ⟨rfl, ho⟩; have HO2 := Lib.hid ho; have hB2 := hB1.trans (ho.b.mono hB1.size); have HO1' := Lib.hid (HO1.out.below ho.b); clear ho hq))
        | (go_at_call 8; (refine (HM1.out wr HB.out).mono ?_; rintro e w1 ⟨rfl, ho⟩; have HO1 := Lib.hid ho; have hB1 := HB.out.trans (ho.b.mono hbs); have HRm := Lib.hid (HR2.out.below ho.b); clear ho))
        | (have hq := HP2.out; go_at_call 13; (refine (HF.out _ _ _ hq (HM.out _ hB3)).mono ?_; rintro e w4 ⟨vy, rfl, hoy, hb4⟩; have hB4 := hB3.trans (hb4.mono hB3.size); obtain ⟨Ay, cy, rfl, hry⟩ := Tr.rdH hoy; have HY4 := Lib.hid hry; have HX4 := Lib.hid (HX3.out.below hb4); have HQ1 := Lib.hid (HP1.out.below hb4); have HQ2 := Lib.hid (HP2.out.below hb4); clear hoy hry hq))
        | (go_at_call 13; (refine (HF.out _ _ _ HO1'.out (HM.out _ hB2)).mono ?_; rintro e w3 ⟨vx, rfl, hox, hb3⟩; have hB3 := hB2.trans (hb3.mono hB2.size); obtain ⟨Ax, cx, rfl, hrx⟩ := Tr.rdH hox; have HX3 := Lib.hid hrx; have HP1 := Lib.hid (HO1'.out.below hb3); have HP2 := Lib.hid (HO2.out.below hb3); clear hox hrx))
        | (have hq := HU2.out; go_at_call 20; (refine (HNm.out _ _ _ hq).mono ?_; rintro e w6 ⟨vo, rfl, hoo, hb6⟩; have hB6 := hB5.trans (hb6.mono hB5.size); obtain ⟨Ao, co, rfl, hro⟩ := rd_own hoo; have HM6 := Lib.hid (HM5.out.below hb6); have HO6 := Lib.hid hro; have HX6 := Lib.hid (HX5.out.below hb6); have HY6 := Lib.hid (HY5.out.below hb6); have HV1 := Lib.hid (HU1.out.below hb6); have HV2 := Lib.hid (HU2.out.below hb6); clear hoo hro hq))
        | (go_at_call 20; (refine (HNm.out _ _ _ HQ1.out).mono ?_; rintro e w5 ⟨vm, rfl, hom, hb5⟩; have hB5 := hB4.trans (hb5.mono hB4.size); obtain ⟨Am, cm, rfl, hrm⟩ := rd_own hom; have HM5 := Lib.hid hrm; have HX5 := Lib.hid (HX4.out.below hb5); have HY5 := Lib.hid (HY4.out.below hb5); have HU1 := Lib.hid (HQ1.out.below hb5); have HU2 := Lib.hid (HQ2.out.below hb5); clear hom hrm))
        | (go_at_call 19; (refine (HTx.out _ _ _ _ _ HM6.out HO6.out).mono ?_; rintro e w7 ⟨rfl, hb7⟩; have hB7 := hB6.trans (hb7.mono hB6.size); have HX7 := Lib.hid (HX6.out.below hb7); have HY7 := Lib.hid (HY6.out.below hb7); have HT1 := Lib.hid (HV1.out.below hb7); have HT2 := Lib.hid (HV2.out.below hb7)))
        | (go_at_call 15; (refine (HHt.out _ _ _ _ _ HX7.out HY7.out).mono ?_; rintro e w8 ⟨rfl, hb8⟩; have hB8 := hB7.trans (hb8.mono hB7.size); have HW1 := Lib.hid (HT1.out.below hb8); have HW2 := Lib.hid (HT2.out.below hb8)))
        | (have hq := HZ2.out; go_at_call 18; (refine (HLe.out _ _ _ hq).mono ?_; rintro e w10 ⟨rfl, hb10⟩; have hB10 := hB9.trans (hb10.mono hB9.size); clear hq))
        | (go_at_call 18; (refine (HLe.out _ _ _ HW1.out).mono ?_; rintro e w9 ⟨rfl, hb9⟩; have hB9 := hB8.trans (hb9.mono hB8.size); have HZ2 := Lib.hid (HW2.out.below hb9)))
        | (go_at_call 21; (refine (known10_any _ (HM.out _ hB10)).mono ?_; rintro e w11 ⟨rfl, hb11⟩; have hB11 := hB10.trans (hb11.mono hB10.size)))
      go_ret
      exact ⟨rfl, hB11⟩

set_option maxHeartbeats 1000000 in
theorem lawTurns10 (l : List (List UInt8)) (A : Option Addr) (c : Nat) (s : List UInt8) (w : World) (hm : Mx w) (hr : Rd w (fun _ => True) A (byS l)) :
    Calls Tryz.prog 4 #[.slice A l.length c, .string ⟨s.toArray⟩] w fun e w' => e = .returned (.bool true) ∧ Below w.heap.size w w' := by
  have hs : (⟨s.toArray⟩ : ByteArray).size = s.length := by show s.toArray.size = _; simp
  by_cases h6 : 60 < l.length
  · have h6' : (60 : Int) < (l.length : Int) := by omega
    clear h6
    go_enter Tryz.func4, Tryz.ntmps4
    go_wp2_with fail
    go_ret
    exact ⟨rfl, Below.refl _ _⟩
  have h6' : ¬ (60 : Int) < (l.length : Int) := by omega
  by_cases h2 : 200 < s.length
  · have h2' : (200 : Int) < (s.length : Int) := by omega
    clear h6 h2
    go_enter Tryz.func4, Tryz.ntmps4
    go_wp2_with fail
    go_ret
    exact ⟨rfl, Below.refl _ _⟩
  obtain ⟨T, hT⟩ : ∃ T, Gl.bal 0 s = true → Gl.Gr false s T := by
    cases hb : Gl.bal 0 s
    · exact ⟨[], fun h => by cases h⟩
    · obtain ⟨T, h⟩ := Gl.parse s hb
      exact ⟨T, fun _ => h⟩
  have hL := Tr.newL_len l
  refine turns_walk l.length (Tr.newL l) (Tr.findR s T (Tr.newL l)) (Tr.findErr s T (Tr.newL l)) s l A c w rfl (by omega) (by omega) (Lib.hid hr) (Lib.hid fun W h => hm.below h) (by omega) (Tr.findR_len _ _ _)
    (Lib.hid fun h W hW => Tr.newC l (by omega) (fun x hx => by have := h x hx; omega) W A c (hr.below hW) (hm.below hW)) (Lib.hid fun h W A2 c2 h2 hmW => ?_) (Lib.hid (Tr.findC s T hT (by omega) (Tr.newL l) l.length)) (Lib.hid fun x _ y hy => by subst hy; show x.toArray.size = _; simp)
  have h3 := Tr.newC l.reverse (by rw [List.length_reverse]; omega) (fun x hx => by have := h x (List.mem_reverse.1 hx); omega) W A2 c2 h2 hmW
  rw [List.length_reverse, Tr.newL_rev] at h3
  exact h3
end Go.Proofs.YtiolkiikgjedcaaGreatDoor

namespace Go.Proofs.YtiolkiikgjedcaaGreatDoor
open Go.RowKit
open Me

set_option maxHeartbeats 1000000 in
theorem refIs_all (s : List UInt8) (w : World) : Calls Tryz.prog 22 #[.string ⟨s.toArray⟩] w fun e w' => e = .returned (.bool (Nm.is s)) ∧ Below w.heap.size w w' := by
  by_cases h : s.length ≤ 4294967270
  · exact refIs_any s h w
  · have hs : (⟨s.toArray⟩ : ByteArray).size = s.length := by show s.toArray.size = _; simp
    have h0' : ¬ (s.length : Int) < 1 := by omega
    have h2' : (200 : Int) < (s.length : Int) := by omega
    have HQ := Lib.hid (@Nm.is_long s (by omega))
    generalize Nm.is s = R at *
    clear h
    go_enter Tryz.func22, Tryz.ntmps22
    go_wp2_with fail
    go_ret
    exact ⟨Nm.ret_bool HQ.out.symm, Below.refl _ _⟩

namespace Tr
theorem jn_plain : ∀ (L : Path), (∀ p ∈ L, p.all Nm.okB = true) → Gl.plainB (Nm.jn L) = true := by
  intro L h
  have key : ∀ s : List UInt8, (∀ p ∈ Nm.pt s, p.all Nm.okB = true) → Gl.plainB s = true := by
    intro s
    induction s with
    | nil => intro _; rfl
    | cons b r ih =>
      intro h
      rw [Nm.pt] at h
      unfold Gl.plainB at ih ⊢
      rw [List.all_cons]
      by_cases e : b = 46
      · rw [if_pos e] at h
        rw [ih fun p hp => h p (List.mem_cons_of_mem _ hp), e]; rfl
      · rw [if_neg e] at h
        cases hp : Nm.pt r with
        | nil => exact absurd hp (Nm.pt_ne r)
        | cons p q =>
          rw [hp] at h ih
          have h1 := h (b :: p) (List.mem_cons_self ..)
          rw [List.all_cons, Bool.and_eq_true] at h1
          rw [h1.1, ih fun x hx => by
            rcases List.mem_cons.1 hx with rfl | hx
            · exact h1.2
            · exact h x (List.mem_cons_of_mem _ hx)]
          simp
  by_cases e : L = []
  · subst e; rfl
  · refine key _ fun p hp => ?_
    rw [Nm.pt_jn L e fun p hp => by
      have h1 := h p hp
      unfold Nm.noDot
      rw [List.all_eq_true] at h1 ⊢
      intro x hx
      have h2 := h1 x hx
      have : x ≠ 46 := by rintro rfl; revert h2; decide
      simpa using this] at hp
    exact h p hp
theorem is_plain {s : List UInt8} (h : Nm.is s = true) : Gl.plainB s = true := by
  have h1 : Gl.plainB (Nm.jn (Nm.pt s)) = true := jn_plain (Nm.pt s) fun p hp => okP_plain (Nm.is_all h p hp)
  rwa [Nm.jn_pt] at h1
theorem is_pos {s : List UInt8} (h : Nm.is s = true) : 0 < s.length := by
  cases s with
  | nil => rw [Nm.is_nil] at h; cases h
  | cons a r => simp
theorem goodP_plain {p : List UInt8} (h : Nm.okP p = true) : Gl.goodP p = true := by
  unfold Nm.okP at h
  obtain ⟨h1, h2⟩ := Bool.and_eq_true_iff.1 h
  unfold Gl.goodP
  rw [Gl.simple_plain p h2]
  simpa using h1
theorem self_read {s : List UInt8} (h : Nm.is s = true) : readErr s [s] = 0 := by
  have h1 := Gl.expErr_plain s (is_plain h) (is_pos h) (is_len h).1
  unfold readErr
  rw [if_neg (fun h => h h1), if_pos]
  rw [List.all_cons, List.all_nil, Bool.and_true]
  unfold Gl.partsOk
  rw [decide_eq_true (is_len h).2, Bool.true_and, List.all_eq_true]
  exact fun p hp => goodP_plain (Nm.is_all h p hp)
theorem mtch_plain : ∀ (a b : Path), (∀ p ∈ a, p.all Nm.okB = true) → mtch a b = decide (b = a)
  | [], [], _ => rfl
  | [], _ :: _, _ => rfl
  | _ :: _, [], _ => rfl
  | x :: xs, y :: ys, h => by
    rw [mtch, Gl.gm_plain x y (h x (List.mem_cons_self ..)), mtch_plain xs ys fun p hp => h p (List.mem_cons_of_mem _ hp)]
    simp [List.cons.injEq]
theorem self_found {s : List UInt8} (h : Nm.is s = true) (L : List (List UInt8)) (y : DH) : y ∈ findD [Nm.pt s] L → y.1 = s ∧ (y.2 = true → s ∈ L) := by
  intro hy
  obtain ⟨p, hp, t, ht, he⟩ := (mem_findD _ _ _).1 hy
  rw [List.mem_singleton] at hp
  subst hp
  unfold hit at he
  split at he
  · rename_i hc
    have hy := Option.some.inj he
    have hm := hc.2
    rw [mtch_plain _ _ fun p hp => okP_plain (Nm.is_all h p hp)] at hm
    have hm := of_decide_eq_true hm
    rw [← hy]
    refine ⟨by show Nm.jn _ = s; rw [hm, Nm.jn_pt], fun h2 => ?_⟩
    have h3 : (Nm.pt t).length = (Nm.pt s).length := of_decide_eq_true h2
    rw [← h3, List.take_length] at hm
    rw [← pt_inj hm]; exact ht
  · cases he
theorem self_in {s : List UInt8} (h : Nm.is s = true) {L : List (List UInt8)} (hs : s ∈ L) : (s, true) ∈ findD [Nm.pt s] L := by
  rw [mem_findD]
  refine ⟨_, List.mem_singleton.2 rfl, s, hs, ?_⟩
  unfold hit
  rw [List.take_length, if_pos ⟨Nat.le_refl _, by rw [mtch_plain _ _ fun p hp => okP_plain (Nm.is_all h p hp)]; simp⟩, Nm.jn_pt]
  simp
theorem self_err {s : List UInt8} (h : Nm.is s = true) (L : List (List UInt8)) : findErr s [s] L = 0 ∧ findR s [s] L = findD [Nm.pt s] L := by
  have hl : (findD [Nm.pt s] L).length ≤ [(s, false), (s, true)].length := len_le_of_mem (nodup_of RH.irr (findD_sorted _ _)) fun y hy => by
    have h1 := (self_found h L y hy).1
    obtain ⟨a, b⟩ := y
    simp only at h1
    subst h1
    cases b <;> simp
  have h1 : findErr s [s] L = 0 := by
    unfold findErr
    rw [if_neg (fun h0 => h0 (self_read h)), if_neg]
    show ¬ 512 < (findD [Nm.pt s] L).length
    simp only [List.length_cons, List.length_nil] at hl
    omega
  exact ⟨h1, by unfold findR; rw [if_pos h1]; rfl⟩
theorem self_leaf {s : List UInt8} (h : Nm.is s = true) (L : List (List UInt8)) : (findD [Nm.pt s] L).any (·.2) = decide (s ∈ L) := by
  by_cases hs : s ∈ L
  · rw [decide_eq_true hs]
    exact List.any_eq_true.2 ⟨_, self_in h hs, rfl⟩
  · rw [decide_eq_false hs]
    refine List.any_eq_false.2 fun y hy e => hs ((self_found h L y hy).2 e)
theorem hasC (s : List UInt8) (hl : s.length ≤ 4294967270) (L : List (List UInt8)) (k : Nat) : ∀ w0 W b, Own_ w0 W b k L → Mx W → Calls Tryz.prog 16 #[.pointer (some ⟨b, 0, none⟩), .string ⟨s.toArray⟩] W fun e w' => e = .returned (.bool (decide (s ∈ L))) ∧ Below W.heap.size W w' := fun w0 W b h hm => by
  obtain ⟨c, F, _, ha, _, _⟩ := h
  exact Has_any ha s hl hm
end Tr

set_option maxRecDepth 100000 in
set_option maxHeartbeats 2000000 in
theorem self_walk (n : Nat) (L : List (List UInt8)) (R : List Tr.DH) (Bl : Bool) (s : List UInt8) (l : List (List UInt8)) (A : Option Addr) (c : Nat) (w : World) (hn : l.length = n) (hn6 : n ≤ 60) (hr : Hid (Rd w (fun _ => True) A (byS l)))
    (HM : Hid (∀ W, Below w.heap.size w W → Mx W)) (hR : R.length ≤ 512) (HIs : Hid (∀ W, Calls Tryz.prog 22 #[.string ⟨s.toArray⟩] W fun e w' => e = .returned (.bool true) ∧ Below W.heap.size W w'))
    (HN1 : Hid ((∀ x ∈ l, x.length ≤ 250) → ∀ W, Below w.heap.size w W → Calls Tryz.prog 8 #[.slice A n c] W fun e w' => e = .returned (.pointer (some ⟨W.heap.size, 0, none⟩)) ∧ Tr.Own_ W w' W.heap.size n L))
    (HF : Hid (∀ w0 W b, Tr.Own_ w0 W b n L → Mx W → Calls Tryz.prog 13 #[.pointer (some ⟨b, 0, none⟩), .string ⟨s.toArray⟩] W fun e w' => ∃ v, e = .returned (.tuple #[v, .int .i64 0]) ∧ Tr.OwnH W.heap.size w' v R ∧ Below W.heap.size W w'))
    (HH : Hid (∀ w0 W b, Tr.Own_ w0 W b n L → Mx W → Calls Tryz.prog 16 #[.pointer (some ⟨b, 0, none⟩), .string ⟨s.toArray⟩] W fun e w' => e = .returned (.bool Bl) ∧ Below W.heap.size W w'))
    (HRs : Hid (∀ y ∈ R, y.1 = s)) (HRl : Hid (R.any (·.2) = Bl)) (HLl : Hid (∀ x ∈ l, ∀ y : ByteArray, y = ⟨x.toArray⟩ → y.size = x.length)) :
    Calls Tryz.prog 5 #[.slice A n c, .string ⟨s.toArray⟩] w fun e w' => e = .returned (.bool true) ∧ Below w.heap.size w w' := by
  have hn6' : (n : Int) ≤ 60 := by omega
  have hn6'' : ¬ (60 : Int) < (n : Int) := by omega
  have hbb : (Bl == Bl) = true := by simp
  have hss : (s == s) = true := by simp
  go_enter Tryz.func5, Tryz.ntmps5
  go_wp2_with (go_at_call 22; go_must (refine (HIs.out _).mono ?_; rintro e wi ⟨rfl, hbi⟩; have HBi := Lib.hid hbi))
  go_loopw [5] (fun i wr => ∃ j : Nat, j ≤ n ∧ i = .int .i64 j ∧ Hid (Below w.heap.size w wr) ∧ Hid (∀ x ∈ l.take j, x.length ≤ 250)) (fun i _ => n - (intOf i).toNat)
  case atStart => exact ⟨0, Nat.zero_le _, rfl, HBi, Lib.hid (by rw [List.take_zero]; intro x hx; cases hx)⟩
  case round =>
    obtain ⟨j, hj, rfl, HB, HA⟩ := hrel
    have hj0 : (0 : Int) ≤ (j : Int) := by omega
    have hbs := HB.out.size
    by_cases hlt : j < n
    · have hkn : j < l.length := by omega
      have hkl : (j : Int) < (n : Int) := by omega
      obtain ⟨lb, lo, rfl, hlb, _, hx⟩ := hr.out.lit j (by rw [byS_len]; exact hkn)
      have ec := (HB.out.cell (p := ⟨lb, lo + j, none⟩) hlb).trans (hx j _ (byS_get l j hkn))
      have hsz := HLl.out l[j] (List.getElem_mem hkn) _ rfl
      have HA2 : Hid (l[j].length ≤ 250 → ∀ x ∈ l.take (j + 1), x.length ≤ 250) := Lib.hid fun h x hx => by
        rw [List.take_succ_eq_append_getElem hkn, List.mem_append, List.mem_singleton] at hx
        exact hx.elim (HA.out x) (fun e => e ▸ h)
      clear hx
      generalize l[j] = x at *
      by_cases h25 : 250 < x.length
      · have h25' : (250 : Int) < (x.length : Int) := by omega
        go_wp2_with fail
        go_ret
        exact ⟨rfl, HB.out⟩
      · have h25' : ¬ (250 : Int) < (x.length : Int) := by omega
        have HA3 := Lib.hid (HA2.out (by omega))
        go_wp2_with fail
        go_roundw
        case rel => exact ⟨j + 1, by omega, by go_num, HB, HA3⟩
        case measure => first | (simp [intOf]; done) | (simp [intOf]; omega)
    · obtain rfl : j = n := by omega
      rw [← hn, List.take_length] at HA
      have HM1 := Lib.hid (HN1.out HA.out)
      go_wp2_with first
        | (go_at_call 8; (refine (HM1.out wr HB.out).mono ?_; rintro e w1 ⟨rfl, ho⟩; have HO1 := Lib.hid ho; have hB1 := HB.out.trans (ho.b.mono hbs); clear ho))
        | (go_at_call 13; (refine (HF.out _ _ _ HO1.out (HM.out _ hB1)).mono ?_; rintro e w3 ⟨vx, rfl, hox, hb3⟩; have hB3 := hB1.trans (hb3.mono hB1.size); obtain ⟨Ax, cx, rfl, hrx⟩ := Tr.rdH hox; have HX3 := Lib.hid hrx; have HP1 := Lib.hid (HO1.out.below hb3); clear hox hrx))
      have HB3 := Lib.hid hB3
      clear hB3 hB1
      have hrl : (R.length : Int) ≤ 512 := by omega
      go_loopw [9, 10] (fun bv i wq => ∃ k : Nat, bv = .bool ((R.take k).any (·.2)) ∧ k ≤ R.length ∧ i = .int .i64 k ∧ Hid (Below w3.heap.size w3 wq)) (fun _ i _ => R.length - (intOf i).toNat)
      case atStart => exact ⟨0, rfl, Nat.zero_le _, rfl, Lib.hid (Below.refl _ _)⟩
      case round =>
        obtain ⟨k, rfl, hk, rfl, HQ⟩ := hrel
        have hk0 : (0 : Int) ≤ (k : Int) := by omega
        by_cases hlk : k < R.length
        · have hkl : (k : Int) < (R.length : Int) := by omega
          obtain ⟨lb, lo, rfl, hlb, _, hx⟩ := HX3.out.lit (k * 2) (by rw [Tr.hvs_len]; omega)
          have ec := (HQ.out.cell (p := ⟨lb, lo + k * 2, none⟩) hlb).trans (hx (k * 2) _ (Tr.hvs_get R k hlk).1)
          have ed := (HQ.out.cell (p := ⟨lb, lo + (k * 2 + 1), none⟩) hlb).trans (hx (k * 2 + 1) _ (Tr.hvs_get R k hlk).2)
          rw [← Nat.add_assoc] at ed
          rw [HRs.out _ (List.getElem_mem hlk)] at ec
          have hst : (R.take (k + 1)).any (·.2) = ((R.take k).any (·.2) || R[k].2) := by rw [List.take_succ_eq_append_getElem hlk, List.any_append]; simp
          have HSt := Lib.hid hst
          clear hx hst
          generalize (R.take k).any (·.2) = b1 at *
          generalize R[k].2 = b2 at *
          cases b1
          · have HSt2 : Hid ((R.take (k + 1)).any (·.2) = b2) := Lib.hid (by rw [HSt.out]; rfl)
            go_wp2_with fail
            go_roundw
            case rel => exact ⟨k + 1, by rw [HSt2.out], by omega, by go_num, HQ⟩
            case measure => first | (simp [intOf]; done) | (simp [intOf]; omega)
          · have HSt2 : Hid ((R.take (k + 1)).any (·.2) = true) := Lib.hid (by rw [HSt.out]; rfl)
            go_wp2_with fail
            go_roundw
            case rel => exact ⟨k + 1, by rw [HSt2.out], by omega, by go_num, HQ⟩
            case measure => first | (simp [intOf]; done) | (simp [intOf]; omega)
        · obtain rfl : k = R.length := by omega
          rw [List.take_length, HRl.out]
          have HP2 := Lib.hid (HP1.out.below HQ.out)
          have hB4 := HB3.out.trans (HQ.out.mono HB3.out.size)
          go_wp2_with first
            | (go_at_call 16; (refine (HH.out _ _ _ HP2.out (HM.out _ hB4)).mono ?_; rintro e w5 ⟨rfl, hb5⟩; have hB5 := hB4.trans (hb5.mono hB4.size)))
            | (go_at_call 21; (refine (known10_any _ (HM.out _ hB5)).mono ?_; rintro e w6 ⟨rfl, hb6⟩; have hB6 := hB5.trans (hb6.mono hB5.size)))
          go_ret
          exact ⟨rfl, hB6⟩

set_option maxHeartbeats 1000000 in
theorem lawSelf10 (l : List (List UInt8)) (A : Option Addr) (c : Nat) (s : List UInt8) (w : World) (hm : Mx w) (hr : Rd w (fun _ => True) A (byS l)) :
    Calls Tryz.prog 5 #[.slice A l.length c, .string ⟨s.toArray⟩] w fun e w' => e = .returned (.bool true) ∧ Below w.heap.size w w' := by
  have hs : (⟨s.toArray⟩ : ByteArray).size = s.length := by show s.toArray.size = _; simp
  by_cases h6 : 60 < l.length
  · have h6' : (60 : Int) < (l.length : Int) := by omega
    clear h6
    go_enter Tryz.func5, Tryz.ntmps5
    go_wp2_with fail
    go_ret
    exact ⟨rfl, Below.refl _ _⟩
  have h6' : ¬ (60 : Int) < (l.length : Int) := by omega
  have HIs := Lib.hid (fun W => refIs_all s W)
  cases hi : Nm.is s with
  | false =>
    rw [hi] at HIs
    clear h6 hi
    go_enter Tryz.func5, Tryz.ntmps5
    go_wp2_with (go_at_call 22; go_must (refine (HIs.out _).mono ?_; rintro e w1 ⟨rfl, hb1⟩))
    go_ret
    exact ⟨rfl, hb1⟩
  | true =>
    rw [hi] at HIs
    have hsl := (Tr.is_len hi).1
    obtain ⟨he, hR⟩ := Tr.self_err hi (Tr.newL l)
    have HF := Tr.findC s [s] (fun _ => Gl.Gr.plain (Gl.noSp_plain s (Tr.is_plain hi))) (by omega) (Tr.newL l) l.length
    have hRl := Tr.findR_len s [s] (Tr.newL l)
    rw [he] at HF
    refine self_walk l.length (Tr.newL l) (Tr.findR s [s] (Tr.newL l)) (decide (s ∈ Tr.newL l)) s l A c w rfl (by omega) (Lib.hid hr) (Lib.hid fun W h => hm.below h) hRl HIs
      (Lib.hid fun h W hW => Tr.newC l (by omega) (fun x hx => by have := h x hx; omega) W A c (hr.below hW) (hm.below hW)) (Lib.hid HF) (Lib.hid (Tr.hasC s (by omega) (Tr.newL l) l.length)) (Lib.hid fun y hy => ?_) (Lib.hid ?_) (Lib.hid fun x _ y hy => by subst hy; show x.toArray.size = _; simp)
    · rw [hR] at hy
      exact (Tr.self_found hi _ y hy).1
    · rw [hR]; exact Tr.self_leaf hi _
end Go.Proofs.YtiolkiikgjedcaaGreatDoor
