/-
  CONTRACTS: the program's files as an object: a crash.
-/
import Derived.Test.YtiacpopgnmledaaVpUndo
namespace Go.Proofs.Ytiacpopgnmledaa
open Go.RowKit
open Me Vf
namespace Vp
def pend (fs : Nat) (w : World) : Nat := match w.cell? ⟨fs, 0, none⟩ with
  | some (.slice _ n _) => n
  | _ => 0
theorem Pt.pend {w : World} {fs : Nat} {mb lr : Option Nat} {I : Nat → Prop} {db : Nat → Nat} {G : Nat → Prop} {room : Int} {c : Co} {j : List Op} {N : Nat} {lv mv : Value} {ys : List Value} (h : Pt w fs mb lr I db G room c j N lv mv ys) : Vp.pend fs w = j.length := by
  obtain ⟨c0, _⟩ := fs_cells h.heap
  obtain ⟨A, cc, rfl, _⟩ := own_form h.own
  unfold Vp.pend
  rw [c0]
/-- The latest of what is pending, by its cells. -/
theorem Pt.last {w : World} {fs : Nat} {mb lr : Option Nat} {I : Nat → Prop} {db : Nat → Nat} {G : Nat → Prop} {room : Int} {c : Co} {o : Op} {j : List Op} {N : Nat} {lv mv : Value} {ys : List Value} (h : Pt w fs mb lr I db G room c (o :: j) N lv mv ys) :
    ∃ g cap A cc, lv = .slice (some ⟨g, 0, none⟩) (j.length + 1) cap ∧ j.length + 1 ≤ cap ∧ g < w.heap.size ∧ lr = some g ∧ w.cell? ⟨g, j.length * 4, none⟩ = some (.int .i64 o.kind) ∧ w.cell? ⟨g, j.length * 4 + 1, none⟩ = some (.pointer (some ⟨o.on, 0, none⟩)) ∧
      w.cell? ⟨g, j.length * 4 + 2, none⟩ = some (.int .i64 (o.at_ : Int)) ∧ w.cell? ⟨g, j.length * 4 + 3, none⟩ = some (.slice A o.old.length cc) ∧ Bs w G (.slice A o.old.length cc) o.old := by
  have hown := h.own
  have hrow := h.row
  rcases h.own.2 with ⟨_, h0⟩ | ⟨g, cap, cur, rfl, hb, hg, hnc, hcm, hcs, ht⟩
  · simp at h0
  · obtain ⟨cs, hcs4, hx⟩ := h.ops.get OpC.four j.length (by simp)
    have hlast : (o :: j).reverse[j.length]'(by simp) = o := by simp
    rw [hlast] at hcs4
    obtain ⟨pv, rfl, hbs⟩ := hcs4
    have hb2 := hbs
    obtain ⟨A, cc, rfl, _, _, _⟩ := hbs
    have hlen : ys.length = (o :: j).length * 4 := hown.1
    rw [List.length_cons] at hlen
    obtain ⟨ad, hA, hlt, _, hcell⟩ := (Rd.own hown).at_ (j.length * 4) (by omega)
    obtain rfl := Option.some.inj hA
    have hc : ∀ i u, (opC o.kind o.on o.at_ (.slice A o.old.length cc))[i]? = some u → i < 4 → w.cell? ⟨g, j.length * 4 + i, none⟩ = some u := fun i u hu hi => by
      have := hcell (j.length * 4 + i) u ((hx i hi).trans hu)
      rwa [Addr.add_lit, Nat.zero_add] at this
    exact ⟨g, cap, A, cc, rfl, hnc, hlt, hrow.symm, hc 0 _ rfl (by omega), hc 1 _ rfl (by omega), hc 2 _ rfl (by omega), hc 3 _ rfl (by omega), hb2⟩
/-- Behind pop. -/
theorem Pt.popped {w w' : World} {fs : Nat} {mb lr : Option Nat} {I : Nat → Prop} {db : Nat → Nat} {G : Nat → Prop} {room : Int} {c : Co} {o : Op} {j : List Op} {N g cap : Nat} {mv : Value} {ys : List Value} {op : Array Value} {e : Ending}
    (h : Pt w fs mb lr I db G room c (o :: j) (N + 1) (.slice (some ⟨g, 0, none⟩) (j.length + 1) cap) mv ys) (hp : Popped w fs g j.length cap room c.used mv op e w') :
    Pt w' fs mb lr I db G room c j N (.slice (some ⟨g, 0, none⟩) j.length cap) mv (ys.take (j.length * 4)) := by
  obtain ⟨_, h1, hk⟩ := hp
  obtain ⟨k, hkk, hm⟩ := h.map
  rw [List.length_cons] at hkk
  have hIk : ∀ id, I id → w'.heap[id]? = w.heap[id]? := fun id hid => hk.block id (h.lt (.inr (.inr (.inr (.inl hid))))) (h.fl hid).1
  have hDk : ∀ id, I id → w'.heap[db id]? = w.heap[db id]? := fun id hid => hk.block _ (h.lt (.inr (.inr (.inr (.inr (.inl ⟨id, hid, rfl⟩)))))) (h.bt hid).1
  have hGk : ∀ b, b < w.heap.size → G b → w'.heap[b]? = w.heap[b]? := fun b hb hg => hk.block b hb (h.g b hg).2.1
  have hops : Els (OpC w G) j.reverse (ys.take (j.length * 4)) := by
    have h2 := h.ops
    rw [List.reverse_cons] at h2
    have key : ∀ (l : List Op) (x : Op) (zs : List Value), Els (OpC w G) (l ++ [x]) zs → Els (OpC w G) l (zs.take (l.length * 4)) := by
      intro l
      induction l with
      | nil => intro x zs _; simp [Els]
      | cons a r ih =>
        intro x zs hz
        obtain ⟨cs, rest, rfl, ha, hr⟩ := hz
        have hc4 := OpC.four _ _ ha
        refine ⟨cs, rest.take (r.length * 4), ?_, ha, ih x rest hr⟩
        rw [List.length_cons, List.take_append, hc4, List.take_of_length_le (by omega)]
        congr 2
        omega
    have := key _ _ _ h2
    rwa [List.length_reverse] at this
  refine ⟨h1, ⟨k, by omega, hm.keep (fun b hb => hk.block b (hm.lt hb).1 (fun e => h.fs_map (e ▸ hb)))⟩, fun id hid => ?_, h.inj, owns_keep (own_less h.own) (fun g' hg' => ?_), hops.mono (OpC.keep hk.size hGk), h.row, ⟨h.live.1, fun o' ho => h.live.2 o' (by simp [ho])⟩, fun _ => h.some_ (by simp), fun b hb => ?_⟩
  · obtain ⟨f1, f2, f3⟩ := h.file id hid
    exact ⟨(hIk id hid).trans f1, (hDk id hid).trans f2, f3⟩
  · have e : g = g' := by simpa [Value.ownBlock] using hg'
    subst e
    have hg2 : lr = some g := h.row.symm
    exact hk.block g (h.lt (.inr (.inr (.inl hg2)))) (fun e => h.fs_row (e ▸ hg2))
  · obtain ⟨g1, g2⟩ := h.g b hb
    exact ⟨Nat.lt_of_lt_of_le g1 hk.size, g2⟩
/-- On the way of a crash, in memory. -/
def Mid (w : World) (M : Nat → Prop) (fs N : Nat) (S : Sv) (n m : Int) (wr : World) : Prop :=
  ∃ mb lr I db G c j lv mv ys, Pt wr fs mb lr I db G S.room c j N lv mv ys ∧ Cr S n m c j ∧ Kp M w wr ∧ ∀ b, Own fs mb lr I db G b → M b ∨ w.heap.size ≤ b
theorem Cr.used {S : Sv} {n m : Int} {c : Co} {j : List Op} {cnt : Nat} (h : Cr S n m c j) (hn : n.toNat < j.length) (hi : Inv cnt S) : 0 ≤ c.used ∧ c.used ≤ S.room := by
  obtain ⟨l, h1, h2, h3, _⟩ := h
  have hu := (h3 hn).view.used
  have hle : l.length ≤ S.l.length := by
    have := congrArg List.length h2
    rw [List.length_reverse, List.length_take] at this
    omega
  have := (hi.all l.length hle).2.1
  rw [h2] at hu
  omega
end Vp

set_option maxHeartbeats 1600000 in
theorem pcrash_any {w : World} {M : Nat → Prop} {fs N cnt : Nat} {S : Vf.Sv} (h : Vp.Pg w M fs N S) (n m : Int) (hN : N ≤ 1048575) (hi : Vf.Inv cnt S) :
    Calls Try.prog 14 #[.pointer (some ⟨fs, 0, none⟩), .int .i64 n, .int .i64 m] w (Vp.PNext w M fs N ⟨S.room, Vf.crash S n m, Vf.crash S n m, []⟩ (.tuple #[])) := by
  obtain ⟨mb, lr, I, db, G, c, j, lv, mv, ys, h1, h2, h3, h4⟩ := h
  have HSTART : Hid (Vp.Mid w M fs N S n m w) := Lib.hid ⟨mb, lr, I, db, G, c, j, lv, mv, ys, h1, Vp.Cr.start h2 n m, Kp.refl _ _, fun b hb => .inl (h4 b hb)⟩
  obtain ⟨q, hq0⟩ : ∃ q, q = n.toNat := ⟨_, rfl⟩
  have HQ := Lib.hid hq0
  have HMX : Hid (max n 0 = (q : Int)) := Lib.hid (by omega)
  clear hq0
  have HI := Lib.hid hi
  have hr1 := hi.room1
  have hr0 := hi.room0
  clear h1 h2 h3 h4 hi
  go_enter Try.func14, Try.ntmps14
  go_wp2_with fail
  rw [HMX.out]
  go_loopw [15] (fun _ wr => Hid (Vp.Mid w M fs N S n m wr)) (fun _ wr => Vp.pend fs wr)
  case atStart => exact HSTART
  case round =>
    obtain ⟨mb, lr, I, db, G, c, j, lv, mv, ys, q1, q2, q3, q4⟩ := hrel.out
    have hpend := q1.pend
    obtain ⟨k, hk, _⟩ := q1.map
    by_cases hlt : n.toNat < j.length
    · cases j with
      | nil => simp at hlt
      | cons o j =>
        rw [List.length_cons] at hpend hk hlt
        obtain ⟨N, rfl⟩ : ∃ N', N = N' + 1 := ⟨N - 1, by omega⟩
        obtain ⟨g, cap, A, cc, rfl, hcap, hgl, hlr, d0, d1, d2, d3, hbs⟩ := q1.last
        have HCNT := Lib.hid (count_any q1.heap q1.own (by rw [List.length_cons]; omega))
        have e1 : (((o :: j).length : Nat) : Int) = (j.length : Int) + 1 := by simp
        rw [e1] at HCNT
        clear e1
        have HPOP := Lib.hid (pop_any (on := o.on) (at_ := o.at_) (kind := o.kind) (A := A) (m := o.old.length) (cc := cc) q1.heap (by omega) hcap hgl d0 d1 d2 d3)
        have HC1 : Hid (∀ (w1 : World) (X : Obj), Vp.Popped wr fs g j.length cap S.room c.used mv #[.int .i64 o.kind, .pointer (some ⟨o.on, 0, none⟩), .int .i64 (o.at_ : Int), .slice A o.old.length cc] (.returned (.agg #[.int .i64 o.kind, .pointer (some ⟨o.on, 0, none⟩), .int .i64 (o.at_ : Int), .slice A o.old.length cc])) w1 →
            Calls Try.prog 37 #[.pointer (some ⟨fs, 0, none⟩)] (w1.alloc X) fun e w' => e = .returned (.int .i64 (j.length : Int)) ∧ w1.alloc X = w') := Lib.hid fun w1 X hp => by
          have p := (q1.popped hp).below (w' := w1.alloc X) ((Below.refl _ _).alloc (Nat.le_refl _) _)
          exact count_any p.heap p.own (by omega)
        have HU : Hid (∀ (w1 : World) (X : Obj), Vp.Popped wr fs g j.length cap S.room c.used mv #[.int .i64 o.kind, .pointer (some ⟨o.on, 0, none⟩), .int .i64 (o.at_ : Int), .slice A o.old.length cc] (.returned (.agg #[.int .i64 o.kind, .pointer (some ⟨o.on, 0, none⟩), .int .i64 (o.at_ : Int), .slice A o.old.length cc])) w1 →
            Calls Try.prog 39 #[.pointer (some ⟨fs, 0, none⟩), .agg #[.int .i64 o.kind, .pointer (some ⟨o.on, 0, none⟩), .int .i64 (o.at_ : Int), .slice A o.old.length cc], .int .i64 (if j.length = n.toNat then m else 0)] (w1.alloc X) fun e w' => e = .returned (.tuple #[]) ∧ Hid (Vp.Mid w M fs (N + 1) S n m w') ∧ Vp.pend fs w' = j.length) := Lib.hid fun w1 X hp => by
          have hb1 : Below w1.heap.size w1 (w1.alloc X) := (Below.refl _ _).alloc (Nat.le_refl _) _
          have p := (q1.popped hp).below hb1
          obtain ⟨_, _, hk1⟩ := hp
          obtain ⟨f1, f2⟩ := q2.fit hlt
          obtain ⟨u0, u1⟩ := q2.used hlt HI.out
          have hbw : Bs (w1.alloc X) G (.slice A o.old.length cc) o.old := (hbs.keep hk1.size (fun b hb hg => hk1.block b hb (q1.g b hg).2.1)).below hb1
          refine (undo_any p q1.live (q1.some_ (by simp)) hbw f1 f2 (by omega) (by omega) (by omega) _).mono ?_
          rintro e w' ⟨rfl, mb', mv', p1, p2, p3⟩
          have hsz : wr.heap.size ≤ (w1.alloc X).heap.size := Nat.le_trans hk1.size hb1.size
          refine ⟨rfl, Lib.hid ⟨mb', lr, I, db, G, _, j, _, mv', _, p1, q2.step hlt, ?_, Vp.own_map (n := (w1.alloc X).heap.size) q4 p3 (fun b hb => .inr (Nat.le_trans q3.size (Nat.le_trans hsz hb)))⟩, p1.pend⟩
          refine q3.trans ((Kp.trans (O := Vp.Own fs mb lr I db G) (O' := fun _ => False) (hk1.mono (fun i _ e => .inl e)) (Kp.of_below hb1) (fun _ _ h => h.elim)).trans p2 (fun i _ h => h)) (fun i hi hO => ?_)
          rcases q4 i hO with h | h
          · exact h
          · omega
        have HPN := Lib.hid hpend
        have hgt : (q : Int) < (j.length : Int) + 1 := by have := HQ.out; omega
        by_cases hq : j.length = n.toNat
        · rw [if_pos hq] at HU
          have t1 : (j.length == q) = true := by rw [HQ.out]; simpa using hq
          have t2 : ((j.length : Int) == (q : Int)) = true := by rw [HQ.out, hq]; simp
          clear q1 q2 q3 q4 hpend hk hlt hbs d0 d1 d2 d3 hcap hgl hlr hq
          go_wp2_with (first | (go_at_call 37; (with_reducible refine (HCNT.out).mono ?_); rintro e w' ⟨rfl, rfl⟩) | (go_at_call 38; (with_reducible refine (HPOP.out).mono ?_); rintro e w1 hp; obtain rfl := hp.1; have HP := Lib.hid hp; clear hp) | (go_at_call 37; (with_reducible refine (HC1.out w1 _ HP.out).mono ?_); rintro e w' ⟨rfl, rfl⟩) | (go_at_call 39; (with_reducible refine (HU.out w1 _ HP.out).mono ?_); rintro e w2 ⟨rfl, hmid, hpd⟩; have HM := Lib.hid hmid; have HPD := Lib.hid hpd; clear hmid hpd))
          go_roundw
          case rel => first | exact HM.out | ((repeat apply Exists.intro); exact ⟨HM.out, rfl⟩)
          case measure => have h1 := HPD.out; have h2 := HPN.out; omega
        · rw [if_neg hq] at HU
          have t1 : (j.length == q) = false := by rw [HQ.out]; simpa using hq
          have t2 : ((j.length : Int) == (q : Int)) = false := by have := HQ.out; simp; omega
          clear q1 q2 q3 q4 hpend hk hlt hbs d0 d1 d2 d3 hcap hgl hlr hq
          go_wp2_with (first | (go_at_call 37; (with_reducible refine (HCNT.out).mono ?_); rintro e w' ⟨rfl, rfl⟩) | (go_at_call 38; (with_reducible refine (HPOP.out).mono ?_); rintro e w1 hp; obtain rfl := hp.1; have HP := Lib.hid hp; clear hp) | (go_at_call 37; (with_reducible refine (HC1.out w1 _ HP.out).mono ?_); rintro e w' ⟨rfl, rfl⟩) | (go_at_call 39; (with_reducible refine (HU.out w1 _ HP.out).mono ?_); rintro e w2 ⟨rfl, hmid, hpd⟩; have HM := Lib.hid hmid; have HPD := Lib.hid hpd; clear hmid hpd))
          go_roundw
          case rel => first | exact HM.out | ((repeat apply Exists.intro); exact ⟨HM.out, rfl⟩)
          case measure => have h1 := HPD.out; have h2 := HPN.out; omega
    · have HCNT := Lib.hid (count_any q1.heap q1.own (by omega))
      have HFG := Lib.hid (forget_any q1.heap q1.form)
      have hle : (j.length : Int) ≤ (q : Int) := by have := HQ.out; omega
      have hv := q2.done (by omega)
      have HEND : Hid (∀ w', Vp.Forgot wr fs S.room c.used mv (.returned (.tuple #[])) w' → Vp.PNext w M fs N ⟨S.room, Vf.crash S n m, Vf.crash S n m, []⟩ (.tuple #[]) (.returned (.tuple #[])) w') := Lib.hid fun w' hf => by
        obtain ⟨_, g1, g2⟩ := hf
        obtain ⟨M', p1, p2, p3⟩ := Vp.sync_end (S := S) (r := Vf.crash S n m) (M := fun b => M b ∨ w.heap.size ≤ b) q1 hv q4 g1 g2
        refine ⟨rfl, M', p1, q3.trans p2 (fun i hi h => ?_), fun b hb => ?_⟩
        · rcases h with h | h
          · exact h
          · omega
        · rcases p3 b hb with h | h
          · exact h
          · exact .inr (Nat.le_trans q3.size h)
      clear q1 q2 q3 q4 hpend hk hlt hv
      generalize j.length = jl at *
      go_wp2_with (first | (go_at_call 37; (with_reducible refine (HCNT.out).mono ?_); rintro e w' ⟨rfl, rfl⟩) | (go_at_call 36; (with_reducible refine (HFG.out).mono ?_); rintro e w' hf; obtain rfl := hf.1; have HFF := Lib.hid hf; clear hf))
      ((try simp only [Exit.inBlock, Exit.then]); first | (refine bodyPost_ret (results_none rfl _ _ _) rfl ?_) | (refine bodyPost_end (results_none rfl _ _ _) rfl ?_))
      exact HEND.out _ HFF.out
end Go.Proofs.Ytiacpopgnmledaa
