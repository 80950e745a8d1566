/-
  CONTRACTS: the program's files as an object: New, Sync, Pending, Used, Size, Remove.
-/
import Derived.Test.YtiacpopgnmledaaVpObj
namespace Go.Proofs.Ytiacpopgnmledaa
open Go.RowKit
open Me Vf
namespace Vp

/-- The object in blocks of M, as the document's state S says. -/
def Pg (w : World) (M : Nat → Prop) (fs N : Nat) (S : Sv) : Prop :=
  ∃ mb lr I db G c j lv mv ys, Pt w fs mb lr I db G S.room c j N lv mv ys ∧ Hist S.was c j S.l.reverse ∧ S.now = rep S.was S.l ∧ ∀ b, Own fs mb lr I db G b → M b
theorem Pg.kp {w w' : World} {M O : Nat → Prop} {fs N : Nat} {S : Sv} (h : Pg w M fs N S) (k : Kp O w w') (hO : ∀ b, O b → ¬ M b) : Pg w' M fs N S := by
  obtain ⟨mb, lr, I, db, G, c, j, lv, mv, ys, h1, h2, h3, h4⟩ := h
  exact ⟨mb, lr, I, db, G, c, j, lv, mv, ys, h1.kp k (fun b ho hb => hO b ho (h4 b hb)), h2, h3, h4⟩
theorem Pg.below {w w' : World} {M : Nat → Prop} {fs N : Nat} {S : Sv} (h : Pg w M fs N S) (b : Below w.heap.size w w') : Pg w' M fs N S := h.kp (O := fun _ => False) (Kp.of_below b) (fun _ o => o.elim)
theorem Pg.more {w : World} {M : Nat → Prop} {fs N N' : Nat} {S : Sv} (h : Pg w M fs N S) (hN : N ≤ N') : Pg w M fs N' S := by
  obtain ⟨mb, lr, I, db, G, c, j, lv, mv, ys, h1, h2⟩ := h
  exact ⟨mb, lr, I, db, G, c, j, lv, mv, ys, h1.more hN, h2⟩
/-- What an act leaves. -/
def PNext (w : World) (M : Nat → Prop) (fs N : Nat) (S : Sv) (v : Value) (e : Ending) (w' : World) : Prop :=
  e = .returned v ∧ ∃ M', Pg w' M' fs N S ∧ Kp M w w' ∧ ∀ b, M' b → M b ∨ w.heap.size ≤ b
theorem PNext.same {w : World} {M : Nat → Prop} {fs N : Nat} {S : Sv} {i : Int} {R : Sv × Int} (h : Pg w M fs N S) (hR : R = (S, i)) : PNext w M fs N R.1 (.int .i64 R.2) (.returned (.int .i64 i)) w := by
  subst hR
  exact ⟨rfl, M, h, Kp.refl _ _, fun b hb => .inl hb⟩
theorem view_now {S : Sv} {c : Co} {j : List Op} (h : Hist S.was c j S.l.reverse) (hn : S.now = rep S.was S.l) : View c S.now := by
  have := h.view
  rwa [List.reverse_reverse, ← hn] at this
end Vp

theorem pnew_any (room : Int) (w : World) (hr : 0 ≤ room) (hr2 : room ≤ 1073741824) :
    Calls Try.prog 7 #[.int .i64 room] w fun e w' => e = .returned (.tuple #[.pointer (some ⟨w.heap.size, 0, none⟩), .int .i64 0]) ∧ (∃ M, Vp.Pg w' M w.heap.size 0 ⟨room, [], [], []⟩ ∧ ∀ b, M b → w.heap.size ≤ b) ∧ Below w.heap.size w w' := by
  go_enter Try.func7, Try.ntmps7
  go_wp2_with fail
  ((try simp only [Exit.inBlock, Exit.then]); refine bodyPost_ret (results_tmp2 rfl _ _ _) rfl ?_)
  refine ⟨rfl, ⟨fun b => w.heap.size ≤ b, ⟨none, none, fun _ => False, fun _ => 0, fun _ => False, ⟨fun _ => none, fun _ => ⟨[], []⟩, 0⟩, [], .slice none 0 0, .map none, [], ?_, .nil ?_, rfl, ?_⟩, fun b hb => hb⟩, (Below.refl _ _).alloc (Nat.le_refl _) _⟩
  · exact ⟨heap_alloc_new w _, ⟨0, Nat.le_refl _, .inl ⟨rfl, rfl, fun _ => rfl⟩⟩, fun _ h => h.elim, fun _ _ h => h.elim, World.ownsRow_nil _ _ _ _, rfl, rfl, ⟨(fun _ _ h => nomatch h), (fun _ h => nomatch h)⟩, fun h => absurd rfl h, fun _ h => h.elim⟩
  · exact ⟨(fun _ => rfl), (fun _ _ h => nomatch h), rfl, List.Pairwise.nil⟩
  · intro b hb
    rcases hb with rfl | hb | hb | hb | ⟨_, hb, _⟩ | hb
    · exact Nat.le_refl _
    · cases hb
    · cases hb
    · exact hb.elim
    · exact hb.elim
    · exact hb.elim
theorem pnew_no (room : Int) (w : World) (hr : room < 0 ∨ 1073741824 < room) :
    Calls Try.prog 7 #[.int .i64 room] w fun e w' => e = .returned (.tuple #[.pointer none, .int .i64 1]) ∧ w = w' := by
  by_cases h0 : room < 0
  · clear hr
    go_enter Try.func7, Try.ntmps7
    go_wp2_with fail
    ((try simp only [Exit.inBlock, Exit.then]); refine bodyPost_ret (results_tmp2 rfl _ _ _) rfl ?_)
    exact ⟨rfl, rfl⟩
  · have h1 : 1073741824 < room := by omega
    clear hr
    go_enter Try.func7, Try.ntmps7
    go_wp2_with fail
    ((try simp only [Exit.inBlock, Exit.then]); refine bodyPost_ret (results_tmp2 rfl _ _ _) rfl ?_)
    exact ⟨rfl, rfl⟩

theorem Vp.sync_end {w w' : World} {M : Nat → Prop} {fs N : Nat} {S : Vf.Sv} {mb lr : Option Nat} {I : Nat → Prop} {db : Nat → Nat} {G : Nat → Prop} {c : Vp.Co} {j : List Vp.Op} {lv mv : Value} {ys : List Value} {r : List Fl}
    (h : Vp.Pt w fs mb lr I db G S.room c j N lv mv ys) (hv : Vp.View c r) (hM : ∀ b, Vp.Own fs mb lr I db G b → M b) (hf : w'.heap[fs]? = some (Vp.fsC (.slice none 0 0) S.room c.used mv)) (hk : Kp (fun b => b = fs) w w') :
    ∃ M', Vp.Pg w' M' fs N ⟨S.room, r, r, []⟩ ∧ Kp M w w' ∧ ∀ b, M' b → M b ∨ w.heap.size ≤ b := by
  refine ⟨M, ⟨mb, none, I, db, fun _ => False, c, [], .slice none 0 0, mv, [], ?_, .nil hv, rfl, ?_⟩, hk.mono (fun b _ e => by subst e; exact hM _ (.inl rfl)), fun b hb => .inl hb⟩
  · obtain ⟨k, hkk, hm⟩ := h.map
    have hIk : ∀ id, I id → w'.heap[id]? = w.heap[id]? := fun id hid => hk.block id (h.lt (.inr (.inr (.inr (.inl hid))))) (h.fl hid).1
    have hDk : ∀ id, I id → w'.heap[db id]? = w.heap[db id]? := fun id hid => hk.block _ (h.lt (.inr (.inr (.inr (.inr (.inl ⟨id, hid, rfl⟩)))))) (h.bt hid).1
    refine ⟨hf, ⟨k, by simp; omega, hm.keep (fun b hb => hk.block b (hm.lt hb).1 (fun e => h.fs_map (e ▸ hb)))⟩, fun id hid => ?_, h.inj, World.ownsRow_nil _ _ _ _, rfl, rfl, ⟨h.live.1, (fun _ h => nomatch h)⟩, fun h => absurd rfl h, fun _ h => h.elim⟩
    obtain ⟨f1, f2, f3⟩ := h.file id hid
    exact ⟨(hIk id hid).trans f1, (hDk id hid).trans f2, f3⟩
  · intro b hb
    rcases hb with hb | hb | hb | hb | hb | hb
    · exact hM b (.inl hb)
    · exact hM b (.inr (.inl hb))
    · cases hb
    · exact hM b (.inr (.inr (.inr (.inl hb))))
    · exact hM b (.inr (.inr (.inr (.inr (.inl hb)))))
    · exact hb.elim

theorem psync_any {w : World} {M : Nat → Prop} {fs N : Nat} {S : Vf.Sv} (h : Vp.Pg w M fs N S) :
    Calls Try.prog 12 #[.pointer (some ⟨fs, 0, none⟩)] w (Vp.PNext w M fs N { S with was := S.now, l := [] } (.tuple #[])) := by
  obtain ⟨mb, lr, I, db, G, c, j, lv, mv, ys, h1, h2, h3, h4⟩ := h
  have HF := Lib.hid (forget_any h1.heap h1.form)
  have H1 := Lib.hid h1
  have HV := Lib.hid (Vp.view_now h2 h3)
  have H4 := Lib.hid h4
  clear h1 h2 h3 h4
  go_enter Try.func12, Try.ntmps12
  go_wp2_with (go_at_call 36; (with_reducible refine (HF.out).mono ?_); rintro e w' ⟨rfl, hf, hk⟩; have HHF := Lib.hid hf; clear hf)
  ((try simp only [Exit.inBlock, Exit.then]); first | (refine bodyPost_ret (results_none rfl _ _ _) rfl ?_) | (refine bodyPost_end (results_none rfl _ _ _) rfl ?_))
  exact ⟨rfl, Vp.sync_end H1.out HV.out H4.out HHF.out hk⟩

theorem ppending_any {w : World} {M : Nat → Prop} {fs N : Nat} {S : Vf.Sv} (h : Vp.Pg w M fs N S) (hN : N ≤ 1048576) :
    Calls Try.prog 34 #[.pointer (some ⟨fs, 0, none⟩)] w fun e w' => e = .returned (.int .i64 (S.l.length : Int)) ∧ w = w' := by
  obtain ⟨mb, lr, I, db, G, c, j, lv, mv, ys, h1, h2, h3, h4⟩ := h
  have hl := h2.len
  rw [List.length_reverse] at hl
  obtain ⟨k, hk, _⟩ := h1.map
  have HF := Lib.hid (count_any h1.heap h1.own (by omega))
  rw [hl] at HF
  clear h1 h2 h3 h4 hl
  go_enter Try.func34, Try.ntmps34
  go_wp2_with (go_at_call 37; ((with_reducible refine (HF.out).mono ?_); rintro e w' ⟨rfl, rfl⟩))
  go_ret
  exact ⟨rfl, rfl⟩

theorem pused_any {w : World} {M : Nat → Prop} {fs N : Nat} {S : Vf.Sv} (h : Vp.Pg w M fs N S) :
    Calls Try.prog 32 #[.pointer (some ⟨fs, 0, none⟩)] w fun e w' => e = .returned (.int .i64 (Vf.used S.now : Int)) ∧ w = w' := by
  obtain ⟨mb, lr, I, db, G, c, j, lv, mv, ys, h1, h2, h3, h4⟩ := h
  have hu := (Vp.view_now h2 h3).used
  obtain ⟨c0, c1, c2, c3, cf, fsl⟩ := Vp.fs_cells h1.heap
  rw [hu] at c2
  clear h1 h2 h3 h4 cf hu
  go_enter Try.func32, Try.ntmps32
  go_wp2_with fail
  go_ret
  exact ⟨rfl, rfl⟩

set_option maxHeartbeats 400000 in
theorem psize_any {w : World} {M : Nat → Prop} {fs N : Nat} {S : Vf.Sv} (h : Vp.Pg w M fs N S) (n : List UInt8) :
    Calls Try.prog 28 #[.pointer (some ⟨fs, 0, none⟩), .string ⟨n.toArray⟩] w fun e w' => e = .returned (.tuple #[.int .i64 (Vf.size S.now n).1, .int .i64 (Vf.size S.now n).2]) ∧ w = w' := by
  obtain ⟨mb, lr, I, db, G, c, j, lv, mv, ys, h1, h2, h3, h4⟩ := h
  have hv := Vp.view_now h2 h3
  obtain ⟨k, hk, hm⟩ := h1.map
  cases hi : Vf.is n
  · have HF := Lib.hid (find_bad (w := w) fs n hi)
    have HR := Lib.hid (Vp.size_bad (l := S.now) hi)
    clear h1 h2 h3 h4 hv hm hi
    generalize Vf.size S.now n = r at *
    go_enter Try.func28, Try.ntmps28
    go_wp2_with (go_at_call 46; ((with_reducible refine (HF.out).mono ?_); rintro e w' ⟨rfl, rfl⟩))
    ((try simp only [Exit.inBlock, Exit.then]); refine bodyPost_ret (results_tmp2 rfl _ _ _) rfl ?_)
    exact ⟨ret_two HR.out.symm, rfl⟩
  · cases hn : c.map n with
    | none =>
      have HF := Lib.hid (find_none h1.heap hm n hi hn)
      have HR := Lib.hid (Vp.size_none hv hi hn)
      clear h1 h2 h3 h4 hv hm hi hn
      generalize Vf.size S.now n = r at *
      go_enter Try.func28, Try.ntmps28
      go_wp2_with (go_at_call 46; ((with_reducible refine (HF.out).mono ?_); rintro e w' ⟨rfl, rfl⟩))
      ((try simp only [Exit.inBlock, Exit.then]); refine bodyPost_ret (results_tmp2 rfl _ _ _) rfl ?_)
      exact ⟨ret_two HR.out.symm, rfl⟩
    | some id =>
      have HF := Lib.hid (find_some h1.heap hm n hi hn)
      have HR := Lib.hid (Vp.size_ok hv hi hn)
      obtain ⟨f1, f2, f3, f4⟩ := h1.file id (h1.live.1 n id hn)
      obtain ⟨e0, e1, _⟩ := Vp.fl_cells f1
      have hl : ((c.sto id).b.length : Int) ≤ 1073741824 := by omega
      clear h1 h2 h3 h4 hv hm hi hn f1 f2 f3 f4
      generalize Vf.size S.now n = r at *
      go_enter Try.func28, Try.ntmps28
      go_wp2_with (go_at_call 46; ((with_reducible refine (HF.out).mono ?_); rintro e w' ⟨rfl, rfl⟩))
      ((try simp only [Exit.inBlock, Exit.then]); refine bodyPost_ret (results_tmp2 rfl _ _ _) rfl ?_)
      exact ⟨ret_two HR.out.symm, rfl⟩
end Go.Proofs.Ytiacpopgnmledaa
