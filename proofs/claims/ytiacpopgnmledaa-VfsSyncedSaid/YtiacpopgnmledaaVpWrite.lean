/-
  CONTRACTS: the program's files as an object: WriteAt.
-/
import Derived.Test.YtiacpopgnmledaaVpRead
import Derived.Deep.RegionWith
namespace Go.Proofs.Ytiacpopgnmledaa
open Go.RowKit
open Me Vf

set_option maxRecDepth 100000 in
set_option maxHeartbeats 1600000 in
theorem pwrite_any {w : World} {M Gq : Nat → Prop} {fs N : Nat} {S : Vf.Sv} (h : Vp.Pg w M fs N S) (n : List UInt8) (t : Int) (ps : List (List UInt8)) (pv : Value) (hp : Vf.Ps w Gq pv ps) (hti : t ≤ 9223372036854775807)
    (hN : N ≤ 1048575) (hpl : ps.length ≤ 1048576) (hpt : ps.flatten.length ≤ 1073741824) (hGq : ∀ b, Gq b → b < w.heap.size ∧ ¬ M b) :
    Calls Try.prog 17 #[.pointer (some ⟨fs, 0, none⟩), .string ⟨n.toArray⟩, .int .i64 t, pv] w (Vp.PNext w M fs (N + 2) (Vf.write S n t ps.flatten).1 (.int .i64 (Vf.write S n t ps.flatten).2)) := by
  have hg := h
  obtain ⟨mb, lr, I, db, G, c, j, lv, mv, ys, h1, h2, h3, h4⟩ := h
  have hv := Vp.view_now h2 h3
  obtain ⟨k, hk, hm⟩ := h1.map
  have HL := Lib.hid (length_any ps pv Gq w hp hpl (by omega))
  have HG := Lib.hid (hg.more (N' := N + 2) (by omega))
  have hpf : ∃ A m c, pv = .slice A m c := by
    obtain ⟨A, c, xs, e, _⟩ := hp
    exact ⟨A, _, c, e⟩
  obtain ⟨A, m, cc, rfl⟩ := hpf
  cases hi : Vf.is n
  · have HF := Lib.hid (find_bad (w := w) fs n hi)
    have HR := Lib.hid (Vp.write_bad (S := S) (t := t) (b := ps.flatten) hi)
    clear h1 h2 h3 h4 hv hm hi hg hp hGq
    generalize ps.flatten = b at *
    go_enter Try.func17, Try.ntmps17
    go_wp2_with (go_at_call 46; ((with_reducible refine (HF.out).mono ?_); rintro e w' ⟨rfl, rfl⟩))
    go_ret
    exact Vp.PNext.same HG.out HR.out
  · cases hn : c.map n with
    | none =>
      have HF := Lib.hid (find_none h1.heap hm n hi hn)
      have HR := Lib.hid (Vp.write_none (t := t) (b := ps.flatten) hv hi hn)
      clear h1 h2 h3 h4 hv hm hi hn hg hp hGq
      generalize ps.flatten = b at *
      go_enter Try.func17, Try.ntmps17
      go_wp2_with (go_at_call 46; ((with_reducible refine (HF.out).mono ?_); rintro e w' ⟨rfl, rfl⟩))
      go_ret
      exact Vp.PNext.same HG.out HR.out
    | some id =>
      have HF := Lib.hid (find_some h1.heap hm n hi hn)
      have hid := h1.live.1 n id hn
      obtain ⟨f1, f2, f3, f4⟩ := h1.file id hid
      obtain ⟨e0, e1, hidl⟩ := Vp.fl_cells f1
      have hl : ((c.sto id).b.length : Int) ≤ 1073741824 := by omega
      have hpt' : (ps.flatten.length : Int) ≤ 1073741824 := by omega
      by_cases ht : t < 0
      · have HR := Lib.hid (Vp.write_off (t := t) (b := ps.flatten) hv hi hn (.inl ht))
        clear h1 h2 h3 h4 hv hm hi hn hg hp hGq f1 f2 f3 f4
        generalize hbb : ps.flatten = b at *
        clear hbb
        generalize (c.sto id).b = bb at *
        go_enter Try.func17, Try.ntmps17
        go_wp2_with (first | (go_at_call 46; ((with_reducible refine (HF.out).mono ?_); rintro e w' ⟨rfl, rfl⟩)) | (go_at_call 41; ((with_reducible refine (HL.out).mono ?_); rintro e w' ⟨rfl, rfl⟩)))
        go_ret
        exact Vp.PNext.same HG.out HR.out
      · obtain ⟨t, rfl⟩ : ∃ t' : Nat, t = (t' : Int) := ⟨t.toNat, by omega⟩
        clear ht
        have hwr : IntKind.i64.wrap (((c.sto id).b.length : Int) - (t : Int)) = ((c.sto id).b.length : Int) - (t : Int) := IntWalk.i64_in _ (by omega)
        by_cases hb : ((c.sto id).b.length : Int) - (t : Int) < (ps.flatten.length : Int)
        · have HR := Lib.hid (Vp.write_off (t := (t : Int)) (b := ps.flatten) hv hi hn (.inr hb))
          clear h1 h2 h3 h4 hv hm hi hn hg hp hGq f1 f2 f3 f4
          generalize hbb : ps.flatten = b at *
          clear hbb
          generalize (c.sto id).b = bb at *
          go_enter Try.func17, Try.ntmps17
          go_wp2_with (first | (go_at_call 46; ((with_reducible refine (HF.out).mono ?_); rintro e w' ⟨rfl, rfl⟩)) | (go_at_call 41; ((with_reducible refine (HL.out).mono ?_); rintro e w' ⟨rfl, rfl⟩)))
          go_ret
          exact Vp.PNext.same HG.out HR.out
        · have hfit : t + ps.flatten.length ≤ (c.sto id).b.length := by omega
          have HR := Lib.hid (Vp.write_ok (b := ps.flatten) hv hi hn hfit)
          have hw2 : IntKind.i64.wrap ((t : Int) + (ps.flatten.length : Int)) = ((t + ps.flatten.length : Nat) : Int) := by rw [IntWalk.i64_in _ (by omega)]; omega
          obtain ⟨o, ho⟩ : ∃ o, o = if (c.sto id).b.length = t then 0 else t := ⟨_, rfl⟩
          obtain ⟨l, hll⟩ : ∃ l, l = ((c.sto id).b.drop t).take ps.flatten.length := ⟨_, rfl⟩
          have hlen : l.length = ps.flatten.length := by rw [hll]; exact Vp.take_drop_len hfit
          have hou : upd (c.sto id).b o ps.flatten = upd (c.sto id).b t ps.flatten := by
            rw [ho]
            split
            · have : ps.flatten = [] := List.eq_nil_of_length_eq_zero (by omega)
              rw [this, Vp.upd_nil, Vp.upd_nil]
            · rfl
          have hof : o + ps.flatten.length ≤ (c.sto id).b.length := by rw [ho]; split <;> omega
          have hol : l = ((c.sto id).b.drop o).take ps.flatten.length := by
            rw [hll, ho]
            split
            · have : ps.flatten.length = 0 := by omega
              rw [this, List.take_zero, List.take_zero]
            · rfl
          -- the bytes that were there, cloned
          have HCL := Lib.hid (fun (W : World) (hh : W.heap[db id]? = some (Vp.btC (c.sto id).b)) => slcClone_any l (db id) o ((c.sto id).b.length - t) (fun b => b = db id) W (by rw [hol]; exact Rd.block (G := fun b => b = db id) hh rfl o _) (by rw [hlen]; omega))
          have HCL2 : Hid (∀ W : World, W.heap[db id]? = some (Vp.btC (c.sto id).b) → Calls Try.prog 47 #[.slice (some ⟨db id, o, none⟩) ps.flatten.length ((c.sto id).b.length - t)] W (Vf.Made W l)) := Lib.hid fun W hh => by
            have := HCL.out W hh
            rw [hlen] at this
            exact this
          have HB2 := Lib.hid f2
          -- noted
          have HNOTE : Hid (∀ (W : World) (v : Value), Below w.heap.size w W → Bs W (fun b => w.heap.size ≤ b) v l → Calls Try.prog 45 #[.pointer (some ⟨fs, 0, none⟩), .agg #[.int .i64 2, .pointer (some ⟨id, 0, none⟩), .int .i64 (t : Int), v]] W fun e w' => e = .returned (.tuple #[]) ∧
              ∃ lr' G' lv' ys', Vp.Pt w' fs mb lr' I db G' S.room c (⟨2, id, t, l⟩ :: j) (N + 1) lv' mv ys' ∧ Kp M w w' ∧ (∀ b, Vp.Own fs mb lr' I db G' b → M b ∨ w.heap.size ≤ b)) := Lib.hid fun W v hB hbs => by
            have hW := h1.below hB
            have hof' : ∃ A m c, v = .slice A m c := by
              obtain ⟨A, c, e, _⟩ := hbs
              exact ⟨A, _, c, e⟩
            refine (note_any (n := j.length) (ys := ys) (on := id) (at_ := t) (kind := 2) (old := v) hW.heap hW.own (by omega) hof').mono ?_
            intro e w' hp2
            obtain rfl := hp2.1
            rw [hW.row] at hp2
            obtain ⟨lr', lv', ys', p1, p2, p3⟩ := hW.noted (o := ⟨2, id, t, l⟩) (G' := fun b => G b ∨ (w.heap.size ≤ b ∧ b < W.heap.size)) hp2 hid (hm.some_ hn) (hbs.mono (fun b hb hg => .inr ⟨hg, hb⟩)) (fun b hb => .inl hb) (fun b hb => by
              rcases hb with hb | ⟨hb, hb2⟩
              · exact hW.g b hb
              · refine ⟨hb2, fun e => ?_, fun e => ?_, fun e => ?_, fun e => ?_, fun i hi e => ?_⟩
                · have := h1.lt (.inl e); omega
                · have := h1.lt (.inr (.inl e)); omega
                · have := h1.lt (.inr (.inr (.inl e))); omega
                · have := h1.lt (.inr (.inr (.inr (.inl e)))); omega
                · have := h1.lt (.inr (.inr (.inr (.inr (.inl ⟨i, hi, e⟩))))); omega)
            refine ⟨rfl, lr', _, lv', ys', p1, (Kp.of_below hB).trans p2 (fun i hi e => ?_), fun b hb => ?_⟩
            · rcases e with e | e
              · exact h4 i (.inl e)
              · exact h4 i (.inr (.inr (.inl e)))
            · rcases hb with hb | hb | hb | hb | hb | hb | hb
              · exact .inl (h4 b (.inl hb))
              · exact .inl (h4 b (.inr (.inl hb)))
              · rcases p3 with p3 | ⟨b', e, p3⟩
                · exact .inl (h4 b (.inr (.inr (.inl (p3.symm.trans hb)))))
                · rw [hb] at e
                  obtain rfl := Option.some.inj e
                  exact .inr (Nat.le_trans hB.size p3)
              · exact .inl (h4 b (.inr (.inr (.inr (.inl hb)))))
              · exact .inl (h4 b (.inr (.inr (.inr (.inr (.inl hb))))))
              · exact .inl (h4 b (.inr (.inr (.inr (.inr (.inr hb))))))
              · exact .inr hb.1
          -- filled
          have HFILL : Hid (∀ (W : World), (∃ lr' G' lv' ys', Vp.Pt W fs mb lr' I db G' S.room c (⟨2, id, t, l⟩ :: j) (N + 1) lv' mv ys' ∧ Kp M w W ∧ (∀ b, Vp.Own fs mb lr' I db G' b → M b ∨ w.heap.size ≤ b)) →
              Calls Try.prog 43 #[.slice (some ⟨db id, o, none⟩) ps.flatten.length ((c.sto id).b.length - t), .slice A m cc] W fun e w' => e = .returned (.tuple #[]) ∧ Vp.Left w M fs (N + 1) (S.act ⟨2, n, t, ps.flatten⟩) w') := Lib.hid fun W hW => by
            obtain ⟨lr', G', lv', ys', q1, q2, q3⟩ := hW
            have hMd : M (db id) := h4 _ (.inr (.inr (.inr (.inr (.inl ⟨id, hid, rfl⟩)))))
            have := fill_any ps (.slice A m cc) Gq W (db id) o ps.flatten.length ((c.sto id).b.length - t) (c.sto id).b (q1.file id hid).2.1 (hp.keep q2.size (fun i hi hg => q2.block i hi (hGq i hg).2)) (fun i hi e => (hGq i hi).2 (e ▸ hMd)) rfl hof (by omega) (by omega) hpl
            refine this.mono ?_
            rintro e w' ⟨rfl, g1, g2, g3⟩
            rw [hou] at g1
            refine ⟨rfl, Vp.act_end (q1.filled hid hfit g1 g2) ?_ h3 (q2.trans g2 (fun i hi e => by subst e; exact hMd)) q3⟩
            have := h2.write hn hfit
            rw [← hll] at this
            exact this
          clear hpt
          have h0t : (0 : Int) ≤ (t : Int) := by omega
          have htl : (t : Int) ≤ ((c.sto id).b.length : Int) := by omega
          have htl' : t ≤ (c.sto id).b.length := by omega
          have htp : t + ps.flatten.length ≤ (c.sto id).b.length := hfit
          clear h1 h2 h3 h4 hv hm hi hn hg hp hGq f1 f2 f3 f4 HCL hlen hou hof hol hll hid
          generalize hbb : ps.flatten = b at *
          clear hbb
          generalize (c.sto id).b = bb at *
          generalize db id = d at *
          by_cases he : bb.length = t
          · rw [if_pos he] at ho
            subst ho
            subst he
            have hz : b.length = 0 := by omega
            rw [hz, Nat.sub_self] at HCL2 HFILL
            clear hz
            have HC3 := Lib.hid (HCL2.out w.drew HB2.out)
            clear HCL2
            go_enter Try.func17, Try.ntmps17
            go_wp2_with (first | (go_at_call 46; ((with_reducible refine (HF.out).mono ?_); rintro e w' ⟨rfl, rfl⟩)) | (go_at_call 41; ((with_reducible refine (HL.out).mono ?_); rintro e w' ⟨rfl, rfl⟩)))
            go_region_with (first | (go_at_call 47; (with_reducible refine (HC3.out).mono ?_); rintro e w1 ⟨v1, rfl, hbs1, hb1⟩; have HN1 := Lib.hid (HNOTE.out w1 v1 ⟨hb1.os, hb1.tape, hb1.output, hb1.size, hb1.block⟩ hbs1); obtain ⟨A1, cc1, rfl, _⟩ := hbs1) | (go_at_call 45; (with_reducible refine (HN1.out).mono ?_); rintro e w2 ⟨rfl, hx⟩; have HF2 := Lib.hid (HFILL.out w2 hx); clear hx))
            all_goals
              go_wp2_with (go_at_call 43; (with_reducible refine (HF2.out).mono ?_); rintro e w3 ⟨rfl, hx⟩; have HLL := Lib.hid hx; clear hx)
              go_ret
              obtain ⟨M', q1, q2⟩ := HLL.out
              exact Vp.Left.next ⟨M', q1.more (by omega), q2⟩ HR.out
          · rw [if_neg he] at ho
            subst ho
            have HC3 := Lib.hid (HCL2.out w.drew HB2.out)
            clear HCL2
            go_enter Try.func17, Try.ntmps17
            go_wp2_with (first | (go_at_call 46; ((with_reducible refine (HF.out).mono ?_); rintro e w' ⟨rfl, rfl⟩)) | (go_at_call 41; ((with_reducible refine (HL.out).mono ?_); rintro e w' ⟨rfl, rfl⟩)))
            go_region_with (first | (go_at_call 47; (with_reducible refine (HC3.out).mono ?_); rintro e w1 ⟨v1, rfl, hbs1, hb1⟩; have HN1 := Lib.hid (HNOTE.out w1 v1 ⟨hb1.os, hb1.tape, hb1.output, hb1.size, hb1.block⟩ hbs1); obtain ⟨A1, cc1, rfl, _⟩ := hbs1) | (go_at_call 45; (with_reducible refine (HN1.out).mono ?_); rintro e w2 ⟨rfl, hx⟩; have HF2 := Lib.hid (HFILL.out w2 hx); clear hx))
            all_goals
              go_wp2_with (go_at_call 43; (with_reducible refine (HF2.out).mono ?_); rintro e w3 ⟨rfl, hx⟩; have HLL := Lib.hid hx; clear hx)
              go_ret
              obtain ⟨M', q1, q2⟩ := HLL.out
              exact Vp.Left.next ⟨M', q1.more (by omega), q2⟩ HR.out
end Go.Proofs.Ytiacpopgnmledaa
