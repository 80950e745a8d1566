/-
  CONTRACTS: the program's files as an object: Remove; the last step of an act.
-/
import Derived.Test.YtiacpopgnmledaaVpGen
namespace Go.Proofs.Ytiacpopgnmledaa
open Go.RowKit
open Me Vf
namespace Vp
/-- What an act leaves, in memory. -/
def Left (w : World) (M : Nat → Prop) (fs N : Nat) (S : Sv) (w' : World) : Prop := ∃ M', Pg w' M' fs N S ∧ Kp M w w' ∧ ∀ b, M' b → M b ∨ w.heap.size ≤ b
theorem Left.next {w w' : World} {M : Nat → Prop} {fs N : Nat} {S : Sv} {i : Int} {R : Sv × Int} (h : Left w M fs N S w') (hR : R = (S, i)) : PNext w M fs N R.1 (.int .i64 R.2) (.returned (.int .i64 i)) w' := by
  subst hR
  exact ⟨rfl, h⟩
theorem act_end {w w2 : World} {M : Nat → Prop} {fs N : Nat} {S : Sv} {a : Ac} {mb lr : Option Nat} {I : Nat → Prop} {db : Nat → Nat} {G : Nat → Prop} {c : Co} {j : List Op} {lv mv : Value} {ys : List Value}
    (h : Pt w2 fs mb lr I db G S.room c j N lv mv ys) (hh : Hist S.was c j (a :: S.l.reverse)) (hn : S.now = rep S.was S.l) (hK : Kp M w w2) (hM : ∀ b, Own fs mb lr I db G b → M b ∨ w.heap.size ≤ b) : Left w M fs N (S.act a) w2 := by
  refine ⟨Own fs mb lr I db G, ⟨mb, lr, I, db, G, c, j, lv, mv, ys, h, ?_, ?_, fun b hb => hb⟩, hK, hM⟩
  · show Hist S.was c j (S.l ++ [a]).reverse
    rw [List.reverse_append]
    exact hh
  · show does S.now a = rep S.was (S.l ++ [a])
    rw [rep_append, ← hn]
theorem own_row {fs : Nat} {mb lr lr' : Option Nat} {I : Nat → Prop} {db : Nat → Nat} {G : Nat → Prop} {n : Nat} {X : Nat → Prop} (h : ∀ b, Own fs mb lr I db G b → X b) (hl : lr' = lr ∨ ∃ b, lr' = some b ∧ n ≤ b) (hn : ∀ b, n ≤ b → X b) : ∀ b, Own fs mb lr' I db G b → X b := by
  intro b hb
  rcases hb with hb | hb | hb | hb
  · exact h b (.inl hb)
  · exact h b (.inr (.inl hb))
  · rcases hl with hl | ⟨b', e, hl⟩
    · exact h b (.inr (.inr (.inl (hl.symm.trans hb))))
    · rw [hb] at e
      obtain rfl := Option.some.inj e
      exact hn b hl
  · exact h b (.inr (.inr (.inr hb)))
theorem own_map {fs : Nat} {mb mb' lr : Option Nat} {I : Nat → Prop} {db : Nat → Nat} {G : Nat → Prop} {n : Nat} {X : Nat → Prop} (h : ∀ b, Own fs mb lr I db G b → X b) (hl : mb' = mb ∨ ∃ b, mb' = some b ∧ n ≤ b) (hn : ∀ b, n ≤ b → X b) : ∀ b, Own fs mb' lr I db G b → X b := by
  intro b hb
  rcases hb with hb | hb | hb
  · exact h b (.inl hb)
  · rcases hl with hl | ⟨b', e, hl⟩
    · exact h b (.inr (.inl (hl.symm.trans hb)))
    · rw [hb] at e
      obtain rfl := Option.some.inj e
      exact hn b hl
  · exact h b (.inr (.inr hb))
end Vp

theorem note_last {w w1 : World} {M : Nat → Prop} {fs N : Nat} {S : Vf.Sv} {a : Vf.Ac} {o : Vp.Op} {old : Value} {mb lr : Option Nat} {I : Nat → Prop} {db : Nat → Nat} {G : Nat → Prop} {c : Vp.Co} {j : List Vp.Op} {lv mv : Value} {ys : List Value}
    (h : Vp.Pt w1 fs mb lr I db G S.room c j N lv mv ys) (hN : N ≤ 1048576) (hh : Vp.Hist S.was c (o :: j) (a :: S.l.reverse)) (hn : S.now = Vf.rep S.was S.l) (hI : I o.on) (hs : ∃ b, mb = some b)
    (hold : Bs w1 G old o.old) (hK : Kp M w w1) (hM : ∀ b, Vp.Own fs mb lr I db G b → M b ∨ w.heap.size ≤ b) :
    Calls Try.prog 45 #[.pointer (some ⟨fs, 0, none⟩), .agg #[.int .i64 o.kind, .pointer (some ⟨o.on, 0, none⟩), .int .i64 (o.at_ : Int), old]] w1 fun e w' => e = .returned (.tuple #[]) ∧ Vp.Left w M fs (N + 1) (S.act a) w' := by
  obtain ⟨k, hk, _⟩ := h.map
  have hof : ∃ A m c, old = .slice A m c := by
    obtain ⟨A, c, e, _⟩ := hold
    exact ⟨A, _, c, e⟩
  refine (note_any (n := j.length) (ys := ys) (on := o.on) (at_ := o.at_) (kind := o.kind) (old := old) h.heap h.own (by omega) hof).mono ?_
  intro e w' hp
  obtain rfl := hp.1
  rw [h.row] at hp
  obtain ⟨lr', lv', ys', p1, p2, p3⟩ := h.noted (o := o) (G' := G) hp hI hs hold (fun _ h => h) h.g
  refine ⟨rfl, Vp.act_end p1 hh hn (hK.trans p2 (fun i hi e => ?_)) (Vp.own_row hM (p3.imp id (fun ⟨b, e, h⟩ => ⟨b, e, h⟩)) (fun b hb => .inr (Nat.le_trans hK.size hb)))⟩
  have : M i ∨ w.heap.size ≤ i := by
    rcases e with e | e
    · exact hM i (.inl e)
    · exact hM i (.inr (.inr (.inl e)))
  rcases this with h | h
  · exact h
  · omega

theorem nil_bs (w : World) (G : Nat → Prop) : Bs w G (.slice none 0 0) [] := ⟨none, 0, rfl, Nat.le_refl _, Nat.zero_le _, Rd.none_ _ _ _⟩

set_option maxHeartbeats 1000000 in
theorem premove_any {w : World} {M : Nat → Prop} {fs N : Nat} {S : Vf.Sv} (h : Vp.Pg w M fs N S) (n : List UInt8) (hN : N ≤ 1048576) (hu : Vf.used S.now ≤ 4294967296) :
    Calls Try.prog 24 #[.pointer (some ⟨fs, 0, none⟩), .string ⟨n.toArray⟩] w (Vp.PNext w M fs (N + 2) (Vf.remove S n).1 (.int .i64 (Vf.remove S n).2)) := by
  have hg := h
  obtain ⟨mb, lr, I, db, G, c, j, lv, mv, ys, h1, h2, h3, h4⟩ := h
  have hv := Vp.view_now h2 h3
  obtain ⟨k, hk, hm⟩ := h1.map
  cases hi : Vf.is n
  · have HF := Lib.hid (find_bad (w := w) fs n hi)
    have HR := Lib.hid (Vp.remove_bad (S := S) hi)
    have HG := Lib.hid (hg.more (N' := N + 2) (by omega))
    clear h1 h2 h3 h4 hv hm hi hg
    go_enter Try.func24, Try.ntmps24
    go_wp2_with (go_at_call 46; ((with_reducible refine (HF.out).mono ?_); rintro e w' ⟨rfl, rfl⟩))
    go_ret
    exact Vp.PNext.same HG.out HR.out
  · cases hn : c.map n with
    | none =>
      have HF := Lib.hid (find_none h1.heap hm n hi hn)
      have HR := Lib.hid (Vp.remove_none hv hi hn)
      have HG := Lib.hid (hg.more (N' := N + 2) (by omega))
      clear h1 h2 h3 h4 hv hm hi hn hg
      go_enter Try.func24, Try.ntmps24
      go_wp2_with (go_at_call 46; ((with_reducible refine (HF.out).mono ?_); rintro e w' ⟨rfl, rfl⟩))
      go_ret
      exact Vp.PNext.same HG.out HR.out
    | some id =>
      have HF := Lib.hid (find_some h1.heap hm n hi hn)
      have HR := Lib.hid (Vp.remove_ok hv hi hn)
      have hid := h1.live.1 n id hn
      obtain ⟨f1, f2, f3, f4⟩ := h1.file id hid
      obtain ⟨b, rfl⟩ := hm.some_ hn
      have hus := hv.used
      have HD := Lib.hid (drop_any h1.heap hm f1 (by omega) (by omega) (by omega) (by omega))
      have HN : Hid (∀ w1, Vp.Putten w fs (some b) k lv S.room (c.used - (c.sto id).b.length) (Vp.setM c.map (c.sto id).name none) (.returned (.tuple #[])) w1 →
          Calls Try.prog 45 #[.pointer (some ⟨fs, 0, none⟩), .agg #[.int .i64 3, .pointer (some ⟨id, 0, none⟩), .int .i64 0, .slice none 0 0]] w1 fun e w' => e = .returned (.tuple #[]) ∧ Vp.Left w M fs (N + 1) (S.act ⟨3, n, 0, []⟩) w') := Lib.hid fun w1 hp => by
        obtain ⟨mb', mv', p1, p2, p3⟩ := h1.putten hp (N' := N) hk ⟨fun m i e => by
          have e : Vp.setM c.map (c.sto id).name none m = some i := e
          unfold Vp.setM at e
          split at e
          · cases e
          · exact h1.live.1 m i e, h1.live.2⟩
        refine note_last (o := ⟨3, id, 0, []⟩) (a := ⟨3, n, 0, []⟩) (c := c.drop id) p1 hN (h2.remove hn) h3 hid ?_ (nil_bs _ _) (p2.mono (fun i _ e => ?_)) (Vp.own_map (fun b' hb' => .inl (h4 b' hb')) p3 (fun b' hb' => .inr hb'))
        · rcases p3 with p3 | ⟨b', e, _⟩
          · exact ⟨b, p3⟩
          · exact ⟨b', e⟩
        · rcases e with e | e
          · exact h4 i (.inl e)
          · exact h4 i (.inr (.inl e))
      clear h1 h2 h3 h4 hv hm hi hn hg f1 f2 f3 f4 hus
      go_enter Try.func24, Try.ntmps24
      go_wp2_with (first | (go_at_call 46; ((with_reducible refine (HF.out).mono ?_); rintro e w' ⟨rfl, rfl⟩)) | (go_at_call 52; (with_reducible refine (HD.out).mono ?_); rintro e w1 hp; obtain rfl := hp.1; have HP := Lib.hid hp; clear hp) | (go_at_call 45; (with_reducible refine (HN.out _ HP.out).mono ?_); rintro e w2 ⟨rfl, hl⟩; have HL := Lib.hid hl; clear hl))
      go_ret
      obtain ⟨M', q1, q2⟩ := HL.out
      exact Vp.Left.next ⟨M', q1.more (by omega), q2⟩ HR.out
end Go.Proofs.Ytiacpopgnmledaa
