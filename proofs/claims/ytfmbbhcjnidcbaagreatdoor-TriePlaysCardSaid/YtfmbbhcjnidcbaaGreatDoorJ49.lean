/-
  TrRFind: CONTRACTS: chapter 10, the document's side: Find.
  TrDuo: CONTRACTS: chapter 10's law on scripts: the program's names and the document's own side by side.
-/
import Derived.Test.YtfmbbhcjnidcbaaGreatDoorJ45
import Derived.Test.YtfmbbhcjnidcbaaGreatDoorJ48

namespace Go.Proofs.YtfmbbhcjnidcbaaGreatDoor
open Go.RowKit Go.Sort
open Me

namespace Tr
/-- What is found so far: with the whole texts before, and this one over the first names. -/
def st (L : List (List UInt8)) (ps : List Path) (p : Path) (j : Nat) : List DH := (L.take j).foldl (addHit p) (findD ps L)
theorem st_zero (L : List (List UInt8)) (ps : List Path) (p : Path) : st L ps p 0 = findD ps L := rfl
theorem st_full (L : List (List UInt8)) (ps : List Path) (p : Path) : st L ps p L.length = findD (ps ++ [p]) L := by
  unfold st findD
  rw [List.take_length, List.foldl_append]
  rfl
theorem st_step (L : List (List UInt8)) (ps : List Path) (p : Path) (j : Nat) (h : j < L.length) : st L ps p (j + 1) = addHit p (st L ps p j) L[j] := by
  unfold st
  rw [List.take_succ_eq_append_getElem h, List.foldl_append]
  rfl
theorem addHit_len (p : Path) (acc : List DH) (s : List UInt8) : (addHit p acc s).length ≤ acc.length + 1 := by
  unfold addHit
  cases hit p s with
  | none => exact Nat.le_succ _
  | some h => exact lay_len _ _ _
theorem fold_len (p : Path) : ∀ (l : List (List UInt8)) (acc : List DH), (l.foldl (addHit p) acc).length ≤ acc.length + l.length
  | [], acc => Nat.le_refl _
  | s :: r, acc => by
    have h1 := fold_len p r (addHit p acc s)
    have h2 := addHit_len p acc s
    rw [List.foldl_cons, List.length_cons]; omega
theorem find_len (L : List (List UInt8)) : ∀ (ps : List Path) (acc : List DH), (ps.foldl (findFrom L) acc).length ≤ acc.length + ps.length * L.length
  | [], acc => by simp
  | p :: r, acc => by
    have h1 := find_len L r (findFrom L acc p)
    have h2 : (findFrom L acc p).length ≤ acc.length + L.length := fold_len p L acc
    rw [List.foldl_cons, List.length_cons, Nat.succ_mul]; omega
theorem st_len (L : List (List UInt8)) (ps : List Path) (p : Path) (j : Nat) (hp : ps.length ≤ 512) (hL : L.length ≤ 1048576) : (st L ps p j).length ≤ 1099511627776 := by
  have h1 := fold_len p (L.take j) (findD ps L)
  have h2 := find_len L ps []
  have h3 : ps.length * L.length ≤ 512 * 1048576 := Nat.mul_le_mul hp hL
  have h4 : (L.take j).length ≤ L.length := by rw [List.length_take]; omega
  unfold st findD at *
  simp at h2
  omega
theorem addHit_le {N : Nat} {p : Path} {acc : List DH} {s : List UInt8} (ha : ∀ y ∈ acc, y.1.length ≤ N) (hs : s.length ≤ N) : ∀ y ∈ addHit p acc s, y.1.length ≤ N := by
  intro y hy
  unfold addHit at hy
  cases e : hit p s with
  | none => rw [e] at hy; exact ha y hy
  | some h =>
    rw [e] at hy
    have hh : h.1.length ≤ N := by
      unfold hit at e
      split at e
      · next hc =>
        have := Option.some.inj e
        subst this
        have := Nm.jn_take_len (Nm.pt s) p.length hc.1
        rw [Nm.jn_pt] at this
        show (Nm.jn ((Nm.pt s).take p.length)).length ≤ N
        omega
      · cases e
    have : y ∈ layH acc h := hy
    unfold layH lay at this
    split at this
    · exact ha y this
    · rcases (mem_put _ _ _ _).1 this with rfl | h2
      · exact hh
      · exact ha y h2
theorem fold_le {N : Nat} (p : Path) : ∀ (l : List (List UInt8)) (acc : List DH), (∀ y ∈ acc, y.1.length ≤ N) → (∀ s ∈ l, s.length ≤ N) → ∀ y ∈ l.foldl (addHit p) acc, y.1.length ≤ N
  | [], acc, ha, _ => ha
  | s :: r, acc, ha, hl => fold_le p r (addHit p acc s) (addHit_le ha (hl s (List.mem_cons_self ..))) fun x hx => hl x (List.mem_cons_of_mem _ hx)
theorem find_le {N : Nat} (L : List (List UInt8)) (hl : ∀ s ∈ L, s.length ≤ N) : ∀ (ps : List Path) (acc : List DH), (∀ y ∈ acc, y.1.length ≤ N) → ∀ y ∈ ps.foldl (findFrom L) acc, y.1.length ≤ N
  | [], acc, ha => ha
  | p :: r, acc, ha => find_le L hl r (findFrom L acc p) (fold_le p L acc ha hl)
theorem st_le {N : Nat} (L : List (List UInt8)) (hl : ∀ s ∈ L, s.length ≤ N) (ps : List Path) (p : Path) (j : Nat) : ∀ y ∈ st L ps p j, y.1.length ≤ N :=
  fold_le p (L.take j) (findD ps L) (find_le L hl ps [] fun _ h => by cases h) fun s hs => hl s (List.mem_of_mem_take hs)
theorem addHit_none {p : Path} {acc : List DH} {s : List UInt8} (h : hit p s = none) : addHit p acc s = acc := by unfold addHit; rw [h]
theorem addHit_some {p : Path} {acc : List DH} {s : List UInt8} {x : DH} (h : hit p s = some x) : addHit p acc s = layH acc x := by unfold addHit; rw [h]
theorem hit_le {N : Nat} {p : Path} {s : List UInt8} {x : DH} (h : hit p s = some x) (hs : s.length ≤ N) : x.1.length ≤ N := by
  unfold hit at h
  split at h
  · next hc =>
    have := Option.some.inj h
    subst this
    have := Nm.jn_take_len (Nm.pt s) p.length hc.1
    rw [Nm.jn_pt] at this
    show (Nm.jn ((Nm.pt s).take p.length)).length ≤ N
    omega
  · cases h
theorem map_take (T : List (List UInt8)) (k : Nat) (h : k < T.length) : (T.take (k + 1)).map Nm.pt = (T.take k).map Nm.pt ++ [Nm.pt T[k]] := by
  rw [List.take_succ_eq_append_getElem h, List.map_append]; rfl
end Tr

set_option maxRecDepth 100000 in
set_option maxHeartbeats 4000000 in
theorem refFind10_any {G : Nat → Prop} {xb : Nat} {L : List (List UInt8)} (s : List UInt8) (T : List (List UInt8)) (hgr : Gl.bal 0 s = true → Gl.Gr false s T) (hl : s.length ≤ 4294967200) (w : World) (h : Tr.RefAt w G xb L) (hn : L.length ≤ 1048576) (hL : ∀ x ∈ L, x.length ≤ 4294967200) :
    Calls Tryz.prog 11 #[.pointer (some ⟨xb, 0, none⟩), .string ⟨s.toArray⟩] w fun e w' => ∃ v, e = .returned (.tuple #[v, .int .i64 (Tr.findErr s T L)]) ∧ Tr.Hs w' v (Tr.findR s T L) ∧ Below w.heap.size w w' := by
  obtain ⟨A, c, hx, hc, hcm, hr⟩ := h
  have HRL := Lib.hid hr
  have hxl := hx.lt
  have c0 : w.cell? ⟨xb, 0, none⟩ = some (.slice A L.length c) := by rw [hx.cell]; rfl
  have HLl := Lib.hid hL
  have hL9 : (L.length : Int) ≤ 1048576 := by omega
  clear hr hx hcm hL
  have HE := Lib.hid ((refExpand_any s T hgr (by omega) w).mono fun e w' h => h.both)
  by_cases h0 : Gl.expErr s T = 0
  · obtain ⟨hs4, hbal, hT5⟩ := Tr.expErr_zero h0
    have HLt := Lib.hid (fun t (ht : t ∈ T) => Nat.le_trans ((hgr hbal).len t ht) hs4)
    have HRE := Lib.hid (Tr.readErr_good h0)
    rw [h0] at HE
    have HE2 : Hid (Calls Tryz.prog 28 #[.string ⟨s.toArray⟩] w fun e w' => ∃ v, e = .returned (.tuple #[v, .int .i64 0]) ∧ OwnS w.heap.size w' v T ∧ Below w.heap.size w w') := Lib.hid (by simpa using HE.out)
    have hTn : (T.length : Int) ≤ 512 := by omega
    have HFE : Hid (Tr.findErr s T L = if Tr.readErr s T ≠ 0 then Tr.readErr s T else if 512 < (Tr.findD (T.map Nm.pt) L).length then 13 else 0) := Lib.hid rfl
    have HFR : Hid (Tr.findR s T L = if Tr.findErr s T L = 0 then Tr.findD (T.map Nm.pt) L else []) := Lib.hid rfl
    clear HE hgr hbal h0
    generalize Tr.findR s T L = FR at *
    generalize Tr.findErr s T L = FE at *
    generalize Tr.readErr s T = re at *
    go_enter Tryz.func11, Tryz.ntmps11
    go_wp2_with (go_at_call 28; go_must (refine HE2.out.mono ?_; rintro e w1 ⟨v, rfl, ho1, hb1⟩; obtain ⟨B, cap, rfl, hr1⟩ := rd_own ho1))
    have HR := Lib.hid hr1
    have HB1 := Lib.hid hb1
    clear ho1 hr1 hb1 HE2
    go_loopw [8, 9] (fun ov i wr => ∃ (k : Nat) (v : Value), v = ov ∧ k ≤ T.length ∧ i = .int .i64 k ∧ Hid (Below w1.heap.size w1 wr) ∧ Hid (∀ j (h : j < T.length), j < k → Gl.partsOk T[j] = true) ∧ Hid (Tr.Hs wr v (Tr.findD ((T.take k).map Nm.pt) L))) (fun _ i _ => T.length - (intOf i).toNat)
    case atStart => exact ⟨0, _, rfl, Nat.zero_le _, rfl, Lib.hid (Below.refl _ _), Lib.hid fun _ _ h => absurd h (Nat.not_lt_zero _), Lib.hid (Tr.Hs.nil _)⟩
    case round =>
      obtain ⟨k, v, rfl, hk, rfl, HB, HD, HO⟩ := hrel
      have hk0 : (0 : Int) ≤ (k : Int) := by omega
      by_cases hlt : k < T.length
      · obtain ⟨lb, lo, rfl, hlb, _, hxx⟩ := HR.out.lit k (by rw [byS_len]; exact hlt)
        have ec := (HB.out.cell (p := ⟨lb, lo + k, none⟩) hlb).trans (hxx k _ (byS_get T k hlt))
        have hkl : (k : Int) < (T.length : Int) := by omega
        have htl := HLt.out T[k] (List.getElem_mem hlt)
        have HP := Lib.hid ((ref9Parts_any T[k] (by omega) wr).mono fun e w' h => h.both)
        have HBw := Lib.hid (HB1.out.trans (HB.out.mono HB1.out.size))
        cases hp : Gl.partsOk T[k]
        · have hbad : (T.all Gl.partsOk) = false := by rw [List.all_eq_false]; exact ⟨T[k], List.getElem_mem hlt, by rw [hp]; simp⟩
          have HRE8 : Hid (FE = 8 ∧ FR = []) := Lib.hid (by
            have h8 : re = 8 := by rw [HRE.out, hbad]; rfl
            have h9 : FE = 8 := by rw [HFE.out, h8]; rfl
            exact ⟨h9, by rw [HFR.out, h9]; rfl⟩)
          rw [hp] at HP
          simp only [Bool.false_eq_true, if_false] at HP
          clear hxx hbad hp HD
          generalize T[k] = t at *
          go_wp2_with (go_at_call 29; go_must (refine HP.out.mono ?_; rintro e w2 ⟨v2, rfl, ho2, hb2⟩))
          ((try simp only [Exit.inBlock, Exit.then]); refine bodyPost_ret (results_tmp2 rfl _ _ _) rfl ?_)
          exact ⟨_, by rw [HRE8.out.1]; rfl, by rw [HRE8.out.2]; exact Tr.Hs.nil _, HBw.out.trans (hb2.mono HBw.out.size)⟩
        · have HDn : Hid (∀ j (h : j < T.length), j < k + 1 → Gl.partsOk T[j] = true) := Lib.hid fun j h hj => by
            by_cases e : j = k
            · subst e; exact hp
            · exact HD.out j h (by omega)
          rw [hp] at HP
          simp only [if_true] at HP
          have HMt := Lib.hid (Tr.map_take T k hlt)
          have htl2 : T[k].length ≤ 4294967270 := by omega
          have HPl : Hid (∀ q ∈ Nm.pt T[k], q.length ≤ 4294967270) := Lib.hid fun q hq => Nat.le_trans (Nm.pt_part_len T[k] q hq) htl2
          have hptn : (Nm.pt T[k]).length ≤ 4294967280 := by have := Nm.pt_len T[k]; omega
          have hpsn : ((T.take k).map Nm.pt).length ≤ 512 := by rw [List.length_map, List.length_take]; omega
          clear hxx hp HD
          generalize T[k] = t at *
          generalize (T.take k).map Nm.pt = ps at *
          go_wp2_with (go_at_call 29; go_must (refine HP.out.mono ?_; rintro e w2 ⟨v2, rfl, ho2, hb2⟩; obtain ⟨B2, cap2, rfl, hr2⟩ := rd_own ho2))
          have HR2 := Lib.hid hr2
          have HB2 := Lib.hid (HB.out.trans (hb2.mono HB.out.size))
          have HO2 := Lib.hid (HO.out.below hb2)
          have HBw2 := Lib.hid (HBw.out.trans (hb2.mono HBw.out.size))
          clear ho2 hr2 hb2 HO
          generalize Nm.pt t = p at *
          go_loopw [8, 12] (fun ov i wq => ∃ (j : Nat) (v : Value), v = ov ∧ j ≤ L.length ∧ i = .int .i64 j ∧ Hid (Below w2.heap.size w2 wq) ∧ Hid (Tr.Hs wq v (Tr.st L ps p j))) (fun _ i _ => L.length - (intOf i).toNat)
          case atStart => exact ⟨0, _, rfl, Nat.zero_le _, rfl, Lib.hid (Below.refl _ _), HO2⟩
          case round =>
            obtain ⟨j, v, rfl, hj, rfl, HBq, HOq⟩ := hrel
            have hj0 : (0 : Int) ≤ (j : Int) := by omega
            have HBwq := Lib.hid (HBw2.out.trans (HBq.out.mono HBw2.out.size))
            have d0 := (HBwq.out.cell (p := ⟨xb, 0, none⟩) hxl).trans c0
            by_cases hjl : j < L.length
            · have hjI : (j : Int) < (L.length : Int) := by omega
              obtain ⟨mb, mo, rfl, hmb, _, hyy⟩ := HRL.out.lit j (by rw [byS_len]; exact hjl)
              have ej := (HBwq.out.cell (p := ⟨mb, mo + j, none⟩) hmb).trans (hyy j _ (byS_get L j hjl))
              have hsl := HLl.out L[j] (List.getElem_mem hjl)
              have HH := Lib.hid (refHit_any p B2 cap2 L[j] wr (HR2.out.below HBq.out) HPl.out hsl hptn)
              have HSt := Lib.hid (Tr.st_step L ps p j hjl)
              have hstl := Tr.st_len L ps p j hpsn hn
              have HSl := Lib.hid (Tr.st_le L HLl.out ps p j)
              cases hh : Tr.hit p L[j] with
              | none =>
                have HSn : Hid (Tr.st L ps p (j + 1) = Tr.st L ps p j) := Lib.hid (by rw [HSt.out, Tr.addHit_none hh])
                rw [hh] at HH
                simp only [Tr.hitV] at HH
                clear hyy hh HSt hsl hstl HSl
                generalize L[j] = nm at *
                go_wp2_with (go_at_call 30; go_must (refine HH.out.mono ?_; rintro e w3 ⟨rfl, hb3⟩; have HB3 := Lib.hid hb3; clear hb3))
                have HB3q := Lib.hid (HBq.out.trans (HB3.out.mono HBq.out.size))
                have HO3 := Lib.hid (HOq.out.below HB3.out)
                have hz3 := HB3.out.size
                have hz3q := HB3q.out.size
                go_roundw
                case rel => exact ⟨j + 1, v, rfl, by omega, by go_num, Lib.hid (HB3q.out.alloc hz3q _), Lib.hid (by rw [HSn.out]; exact HO3.out.below ((Below.refl _ _).alloc (Nat.le_refl _) _))⟩
                case measure => simp [intOf]; omega
              | some x =>
                obtain ⟨xn, xf⟩ := x
                have HSn : Hid (Tr.st L ps p (j + 1) = Tr.layH (Tr.st L ps p j) (xn, xf)) := Lib.hid (by rw [HSt.out, Tr.addHit_some hh])
                have hxn := Tr.hit_le hh hsl
                have hxn2 : xn.length ≤ 4294967270 := Nat.le_trans hxn (by omega)
                obtain ⟨Aq, cq, rfl, hcq, hcmq, hrq⟩ := HOq.out
                have HLay := Lib.hid fun W (hW : Below wr.heap.size wr W) => refLay_any (Tr.st L ps p j) Aq cq xn xf W hcq hcmq (hrq.below hW) hstl (fun y hy => Nat.le_trans (HSl.out y hy) (by omega)) hxn2
                rw [hh] at HH
                simp only [Tr.hitV] at HH
                clear hyy hh HSt hsl HSl hrq hxn
                generalize L[j] = nm at *
                generalize (Tr.st L ps p j) = S at *
                go_wp2_with first
                  | (go_at_call 30; go_must (refine HH.out.mono ?_; rintro e w3 ⟨rfl, hb3⟩; have HB3 := Lib.hid hb3; have hz3 := hb3.size; clear hb3))
                  | (go_at_call 31; go_must (refine (HLay.out _ (HB3.out.alloc hz3 _)).mono ?_; rintro e w4 ⟨v4, rfl, hv4, hb4⟩; have HV4 := Lib.hid hv4; have HB4 := Lib.hid ((((HBq.out.trans (HB3.out.mono HBq.out.size)).alloc (HBq.out.trans (HB3.out.mono HBq.out.size)).size _)).trans (hb4.mono (by have h1 := (HBq.out.trans (HB3.out.mono HBq.out.size)).size; simp <;> omega))); clear hv4 hb4))
                go_roundw
                case rel => exact ⟨j + 1, v4, rfl, by omega, by go_num, HB4, Lib.hid (by rw [HSn.out]; exact HV4.out)⟩
                case measure => simp [intOf]; omega
            · obtain rfl : j = L.length := by omega
              rw [Tr.st_full, ← HMt.out] at HOq
              go_wp2_with fail
              go_roundw
              case rel => exact ⟨k + 1, v, rfl, by omega, by go_num, Lib.hid (HB2.out.trans (HBq.out.mono HB2.out.size)), HDn, HOq⟩
              case measure => first | (simp [intOf]; done) | (simp [intOf]; omega)
      · obtain rfl : k = T.length := by omega
        have HRE0 : Hid (re = 0) := Lib.hid (by
          rw [HRE.out, if_pos]
          exact List.all_eq_true.2 fun t ht => by obtain ⟨j, hj, rfl⟩ := List.getElem_of_mem ht; exact HD.out j hj hj)
        have HBw := Lib.hid (HB1.out.trans (HB.out.mono HB1.out.size))
        rw [List.take_length] at HO
        obtain ⟨Aq, cq, rfl, hcq, hcmq, hrq⟩ := HO.out
        have HO2 : Hid (Tr.Hs wr (.slice Aq (Tr.findD (T.map Nm.pt) L).length cq) (Tr.findD (T.map Nm.pt) L)) := Lib.hid HO.out
        clear HD hrq HO
        by_cases h5 : 512 < (Tr.findD (T.map Nm.pt) L).length
        · have h5I : (512 : Int) < ((Tr.findD (T.map Nm.pt) L).length : Int) := by omega
          have HF : Hid (FE = 13 ∧ FR = []) := Lib.hid (by
            have h9 : FE = 13 := by rw [HFE.out, HRE0.out, if_neg (by simp), if_pos h5]
            exact ⟨h9, by rw [HFR.out, h9]; rfl⟩)
          clear h5
          go_wp2_with fail
          ((try simp only [Exit.inBlock, Exit.then]); refine bodyPost_ret (results_tmp2 rfl _ _ _) rfl ?_)
          exact ⟨_, by rw [HF.out.1]; rfl, by rw [HF.out.2]; exact Tr.Hs.nil _, HBw.out⟩
        · have h5I : ¬ (512 : Int) < ((Tr.findD (T.map Nm.pt) L).length : Int) := by omega
          have HF : Hid (FE = 0 ∧ FR = Tr.findD (T.map Nm.pt) L) := Lib.hid (by
            have h9 : FE = 0 := by rw [HFE.out, HRE0.out, if_neg (by simp), if_neg h5]
            exact ⟨h9, by rw [HFR.out, h9]; rfl⟩)
          clear h5
          go_wp2_with fail
          ((try simp only [Exit.inBlock, Exit.then]); refine bodyPost_ret (results_tmp2 rfl _ _ _) rfl ?_)
          exact ⟨_, by rw [HF.out.1]; rfl, by rw [HF.out.2]; exact HO2.out, HBw.out⟩
  · have HRE := Lib.hid (Tr.readErr_bad h0)
    have hne : (Gl.expErr s T == 0) = false := by simpa using h0
    have HFF : Hid (Tr.findErr s T L = Gl.expErr s T ∧ Tr.findR s T L = []) := Lib.hid (by
      have h1 : Tr.findErr s T L = Gl.expErr s T := by unfold Tr.findErr; rw [HRE.out, if_pos h0]
      exact ⟨h1, by unfold Tr.findR; rw [h1, if_neg h0]⟩)
    clear hgr
    generalize Tr.findR s T L = FR at *
    generalize Tr.findErr s T L = FE at *
    generalize Gl.expErr s T = er at *
    go_enter Tryz.func11, Tryz.ntmps11
    go_wp2_with (go_at_call 28; go_must (refine HE.out.mono ?_; rintro e w1 ⟨v, rfl, ho1, hb1⟩))
    ((try simp only [Exit.inBlock, Exit.then]); refine bodyPost_ret (results_tmp2 rfl _ _ _) rfl ?_)
    exact ⟨_, by rw [HFF.out.1]; rfl, by rw [HFF.out.2]; exact Tr.Hs.nil _, hb1⟩
end Go.Proofs.YtfmbbhcjnidcbaaGreatDoor

namespace Go.Proofs.YtfmbbhcjnidcbaaGreatDoor
open Go.RowKit Go.Sort
open Me

namespace Tr
/-- Both at work: the program's tree holds L, the document's row M; neither lies in the other. -/
def Duo (w0 w : World) (tb xb k : Nat) (L M : List (List UInt8)) : Prop :=
  ∃ c F, c ≤ 20 * k ∧ At_ w tb c F L ∧ (∀ i, own F i → w0.heap.size ≤ i) ∧ ¬ own F xb ∧ w0.heap.size ≤ xb ∧ RefAt w (fun i => w0.heap.size ≤ i ∧ ¬ own F i ∧ i ≠ xb) xb M ∧ Below w0.heap.size w0 w ∧ L.length ≤ k ∧ M.length ≤ k ∧ ∀ x ∈ M, Nm.is x = true
theorem Duo.b {w0 w : World} {tb xb k : Nat} {L M : List (List UInt8)} (h : Duo w0 w tb xb k L M) : Below w0.heap.size w0 w := by
  obtain ⟨_, _, _, _, _, _, _, _, h, _⟩ := h
  exact h
theorem Duo.below {w0 w W : World} {tb xb k : Nat} {L M : List (List UInt8)} (h : Duo w0 w tb xb k L M) (hb : Below w.heap.size w W) : Duo w0 W tb xb k L M := by
  obtain ⟨c, F, h1, h2, h3, h4, h5, h6, h7, h8⟩ := h
  exact ⟨c, F, h1, h2.below hb, h3, h4, h5, h6.below hb, h7.trans (hb.mono h7.size), h8⟩
theorem Duo.more {w0 w : World} {tb xb k : Nat} {L M : List (List UInt8)} (h : Duo w0 w tb xb k L M) : Duo w0 w tb xb (k + 1) L M := by
  obtain ⟨c, F, h1, h2, h3, h4, h5, h6, h7, h8, h9, h10⟩ := h
  exact ⟨c, F, by omega, h2, h3, h4, h5, h6, h7, by omega, by omega, h10⟩
theorem Duo.cell {w0 w : World} {tb xb k : Nat} {L M : List (List UInt8)} (h : Duo w0 w tb xb k L M) : ∃ A c, w.cell? ⟨xb, 0, none⟩ = some (.slice A M.length c) ∧ Rd w (fun _ => True) A (byS M) ∧ xb < w.heap.size := by
  obtain ⟨_, _, _, _, _, _, _, ⟨A, c, g1, _, _, g4⟩, _⟩ := h
  exact ⟨A, c, by rw [g1.cell]; rfl, g4.mono fun _ _ _ => trivial, g1.lt⟩
/-- What the program's own step leaves. -/
theorem Duo.prog_step {w0 w w' : World} {tb xb k' : Nat} {L' M : List (List UInt8)} {c' : Nat} {F F' : Ns} (h1 : c' ≤ 20 * k') (h2 : At_ w' tb c' F' L') (hk : Kp (own F) w w') (hF : ∀ i, own F' i → own F i ∨ w.heap.size ≤ i)
    (h3 : ∀ i, own F i → w0.heap.size ≤ i) (h4 : ¬ own F xb) (h5 : w0.heap.size ≤ xb) (h6 : RefAt w (fun i => w0.heap.size ≤ i ∧ ¬ own F i ∧ i ≠ xb) xb M) (h7 : Below w0.heap.size w0 w) (hL : L'.length ≤ k') (hM : M.length ≤ k') (hi : ∀ x ∈ M, Nm.is x = true) : Duo w0 w' tb xb k' L' M := by
  have hxl : xb < w.heap.size := by obtain ⟨_, _, g, _⟩ := h6; exact g.lt
  refine ⟨c', F', h1, h2, fun i hi => (hF i hi).elim (h3 i) fun h => Nat.le_trans h7.size h, fun h => (hF xb h).elim h4 fun h => by omega, h5, ?_, ?_, hL, hM, hi⟩
  · have := h6.kp hk h4 fun i _ hg => hg.2.1
    obtain ⟨A, cc, g1, g2, g3, g4⟩ := h6
    refine ⟨A, cc, (hk.block _ g1.lt h4).trans g1, g2, g3, ?_⟩
    intro hne
    obtain ⟨ad, ea, hl, hg, hc⟩ := (g4.kp hk fun i _ hg => hg.2.1) hne
    obtain ⟨ad2, ea2, hl2, _⟩ := g4 hne
    rw [ea] at ea2
    have := Option.some.inj ea2
    subst this
    exact ⟨ad, ea, hl, ⟨hg.1, fun h => (hF _ h).elim hg.2.1 fun h => by omega, hg.2.2⟩, hc⟩
  · exact h7.trans (hk.below h7.size fun i hi ho => by have := h3 i ho; omega)
/-- What the document's own step leaves. -/
theorem Duo.ref_step {w0 w w' : World} {tb xb k' : Nat} {L M' : List (List UInt8)} {c : Nat} {F : Ns} (h1 : c ≤ 20 * k') (h2 : At_ w tb c F L) (hk : Kp (fun i => i = xb) w w')
    (h3 : ∀ i, own F i → w0.heap.size ≤ i) (h4 : ¬ own F xb) (h5 : w0.heap.size ≤ xb) (h6 : RefAt w' (fun i => (w0.heap.size ≤ i ∧ ¬ own F i ∧ i ≠ xb) ∨ w.heap.size ≤ i) xb M') (hxl : xb < w.heap.size) (h7 : Below w0.heap.size w0 w) (hL : L.length ≤ k') (hM : M'.length ≤ k') (hi : ∀ x ∈ M', Nm.is x = true) : Duo w0 w' tb xb k' L M' := by
  refine ⟨c, F, h1, h2.keep fun i hi => hk.block i (h2.tree.lt hi) (fun e => h4 (e ▸ hi)), h3, h4, h5, ?_, h7.trans (hk.below h7.size fun i hi e => by omega), hL, hM, hi⟩
  obtain ⟨A, cc, g1, g2, g3, g4⟩ := h6
  refine ⟨A, cc, g1, g2, g3, g4.mono fun i _ hg => hg.elim id fun h => ⟨Nat.le_trans h7.size h, fun ho => by have := h2.tree.lt ho; omega, by omega⟩⟩
section
variable {w0 w : World} {tb xb k : Nat} {L M : List (List UInt8)}
theorem Duo.insP (h : Duo w0 w tb xb k L M) (hk : k ≤ 200) (s : List UInt8) (hl : s.length ≤ 4294967270) (hm : Mx w0) :
    Calls Tryz.prog 6 #[.pointer (some ⟨tb, 0, none⟩), .string ⟨s.toArray⟩] w fun e w' => e = .returned (.int .i64 (if Nm.is s = true then 0 else 14)) ∧ Duo w0 w' tb xb (k + 1) (insV L s) M := by
  obtain ⟨c, F, h1, h2, h3, h4, h5, h6, h7, h8, h9, h10⟩ := h
  refine (Insert_any h2 (by omega) (by omega) s hl (hm.below h7)).mono ?_
  rintro e w' ⟨he, c', F', a1, a2, a3, a4⟩
  exact ⟨he, Duo.prog_step (by omega) a2 a3 a4 h3 h4 h5 h6 h7 (by have := insV_len L s; omega) (by omega) h10⟩
theorem Duo.insR (h : Duo w0 w tb xb k L M) (hk : k ≤ 200) (s : List UInt8) (hl : s.length ≤ 4294967270) :
    Calls Tryz.prog 7 #[.pointer (some ⟨xb, 0, none⟩), .string ⟨s.toArray⟩] w fun e w' => e = .returned (.int .i64 (if Nm.is s = true then 0 else 14)) ∧ Duo w0 w' tb xb (k + 1) L (insV M s) := by
  obtain ⟨c, F, h1, h2, h3, h4, h5, h6, h7, h8, h9, h10⟩ := h
  have hxl : xb < w.heap.size := by obtain ⟨_, _, g, _⟩ := h6; exact g.lt
  refine (refInsert10_any s w h6 (by omega) hl (fun x hx => by have := (is_len (h10 x hx)).1; omega) (fun hg => hg.2.2 rfl)).mono ?_
  rintro e w' ⟨he, hkp, hr⟩
  refine ⟨he, Duo.ref_step (by omega) h2 hkp h3 h4 h5 hr hxl h7 (by omega) (by have := insV_len M s; omega) fun x hx => ?_⟩
  unfold insV at hx
  split at hx
  · next hs =>
    split at hx
    · exact h10 x hx
    · rcases (mem_ins M s x).1 hx with rfl | hx
      · exact hs
      · exact h10 x hx
  · exact h10 x hx
theorem Duo.remP (h : Duo w0 w tb xb k L M) (s : List UInt8) (hl : s.length ≤ 4294967270) (hm : Mx w0) :
    Calls Tryz.prog 8 #[.pointer (some ⟨tb, 0, none⟩), .string ⟨s.toArray⟩] w fun e w' => e = .returned (.bool (decide (s ∈ L))) ∧ Duo w0 w' tb xb (k + 1) (L.erase s) M := by
  obtain ⟨c, F, h1, h2, h3, h4, h5, h6, h7, h8, h9, h10⟩ := h
  refine (Remove_any h2 s hl (hm.below h7)).mono ?_
  rintro e w' ⟨he, F', a2, a3, a4⟩
  exact ⟨he, Duo.prog_step (by omega) a2 a3 (fun i hi => .inl (a4 i hi)) h3 h4 h5 h6 h7 (by have := List.length_erase_le (a := s) (l := L); omega) (by omega) h10⟩
theorem Duo.remR (h : Duo w0 w tb xb k L M) (hk : k ≤ 200) (s : List UInt8) :
    Calls Tryz.prog 9 #[.pointer (some ⟨xb, 0, none⟩), .string ⟨s.toArray⟩] w fun e w' => e = .returned (.bool (decide (s ∈ M))) ∧ Duo w0 w' tb xb (k + 1) L (M.erase s) := by
  obtain ⟨c, F, h1, h2, h3, h4, h5, h6, h7, h8, h9, h10⟩ := h
  have hxl : xb < w.heap.size := by obtain ⟨_, _, g, _⟩ := h6; exact g.lt
  refine (refRemove10_any s w h6 (by omega) (fun hg => hg.2.2 rfl)).mono ?_
  rintro e w' ⟨he, hkp, hr⟩
  exact ⟨he, Duo.ref_step (by omega) h2 hkp h3 h4 h5 hr hxl h7 (by omega) (by have := List.length_erase_le (a := s) (l := M); omega) fun x hx => h10 x (List.mem_of_mem_erase hx)⟩
theorem Duo.hasP (h : Duo w0 w tb xb k L M) (s : List UInt8) (hl : s.length ≤ 4294967270) (hm : Mx w0) :
    Calls Tryz.prog 13 #[.pointer (some ⟨tb, 0, none⟩), .string ⟨s.toArray⟩] w fun e w' => e = .returned (.bool (decide (s ∈ L))) ∧ Below w.heap.size w w' := by
  obtain ⟨c, F, h1, h2, h3, h4, h5, h6, h7, _⟩ := h
  exact Has_any h2 s hl (hm.below h7)
theorem Duo.hasR (h : Duo w0 w tb xb k L M) (hk : k ≤ 200) (s : List UInt8) :
    Calls Tryz.prog 14 #[.pointer (some ⟨xb, 0, none⟩), .string ⟨s.toArray⟩] w fun e w' => e = .returned (.bool (decide (s ∈ M))) ∧ Below w.heap.size w w' := by
  obtain ⟨c, F, h1, h2, h3, h4, h5, h6, h7, h8, h9, h10⟩ := h
  exact refHas10_any s w h6 (by omega)
theorem Duo.findP (h : Duo w0 w tb xb k L M) (s : List UInt8) (T : List (List UInt8)) (hgr : Gl.bal 0 s = true → Gl.Gr false s T) (hl : s.length ≤ 4294967200) (hm : Mx w0) :
    Calls Tryz.prog 10 #[.pointer (some ⟨tb, 0, none⟩), .string ⟨s.toArray⟩] w fun e w' => ∃ A c, e = .returned (.tuple #[.slice A (findR s T L).length c, .int .i64 (findErr s T L)]) ∧ Rd w' (fun _ => True) A (hvs (findR s T L)) ∧ Below w.heap.size w w' := by
  obtain ⟨c, F, h1, h2, h3, h4, h5, h6, h7, _⟩ := h
  refine (Find_any h2 s T hgr (by omega) (hm.below h7)).mono ?_
  rintro e w' ⟨v, he, ho, hb⟩
  obtain ⟨A, c, rfl, hr⟩ := rdH ho
  exact ⟨A, c, he, hr, hb⟩
theorem Duo.findR' (h : Duo w0 w tb xb k L M) (hk : k ≤ 200) (s : List UInt8) (T : List (List UInt8)) (hgr : Gl.bal 0 s = true → Gl.Gr false s T) (hl : s.length ≤ 4294967200) :
    Calls Tryz.prog 11 #[.pointer (some ⟨xb, 0, none⟩), .string ⟨s.toArray⟩] w fun e w' => ∃ A c, e = .returned (.tuple #[.slice A (findR s T M).length c, .int .i64 (findErr s T M)]) ∧ Rd w' (fun _ => True) A (hvs (findR s T M)) ∧ Below w.heap.size w w' := by
  obtain ⟨c, F, h1, h2, h3, h4, h5, h6, h7, h8, h9, h10⟩ := h
  refine (refFind10_any s T hgr hl w h6 (by omega) (fun x hx => by have := (is_len (h10 x hx)).1; omega)).mono ?_
  rintro e w' ⟨v, he, ⟨A, c, rfl, _, _, hr⟩, hb⟩
  exact ⟨A, c, he, hr, hb⟩
theorem Duo.len (h : Duo w0 w tb xb k L M) :
    Calls Tryz.prog 15 #[.pointer (some ⟨tb, 0, none⟩)] w fun e w' => e = .returned (.int .i64 L.length) ∧ Below w.heap.size w w' := by
  obtain ⟨c, F, h1, h2, _⟩ := h
  exact Len_any h2
theorem Duo.names (h : Duo w0 w tb xb k L M) :
    Calls Tryz.prog 17 #[.pointer (some ⟨tb, 0, none⟩)] w fun e w' => ∃ A c, e = .returned (.slice A L.length c) ∧ Rd w' (fun _ => True) A (byS L) ∧ Below w.heap.size w w' := by
  obtain ⟨c, F, h1, h2, _⟩ := h
  refine (Names_any h2).mono ?_
  rintro e w' ⟨v, he, ho, hb⟩
  obtain ⟨A, c, rfl, hr⟩ := rd_S ho
  exact ⟨A, c, he, hr, hb⟩
end
end Tr
end Go.Proofs.YtfmbbhcjnidcbaaGreatDoor
