/-
  CONTRACTS: the program's files as an object: Create.
-/
import Derived.Test.YtiacpopgnmledaaVpRead
import Derived.Deep.RegionWith
import Derived.BigQuiet
import Derived.Deep.QuietTactic
namespace Go.Proofs.Ytiacpopgnmledaa
open Go.RowKit
open Me Vf

/-- The last step of Create: what is noted of a file that was put. -/
theorem create_note {w W2 w3 : World} {M : Nat → Prop} {fs N : Nat} {S : Vf.Sv} {mb lr : Option Nat} {I : Nat → Prop} {db : Nat → Nat} {G : Nat → Prop} {c : Vp.Co} {j : List Vp.Op} {lv mv : Value} {ys : List Value} {k id d : Nat} {n b : List UInt8} {e : Ending}
    (h1 : Vp.Pt w fs mb lr I db G S.room c j N lv mv ys) (h2 : Vp.Hist S.was c j S.l.reverse) (h3 : S.now = Vf.rep S.was S.l) (h4 : ∀ b, Vp.Own fs mb lr I db G b → M b) (hk : k + j.length ≤ N) (hN : N ≤ 1048575) (hn : c.map n = none) (hn1 : n.length ≤ 255) (hb1 : b.length ≤ 1073741824)
    (hB : Below w.heap.size w W2) (hid : w.heap.size ≤ id) (hd : w.heap.size ≤ d) (hf : W2.heap[id]? = some (Vp.flC n d b.length)) (hbb : W2.heap[d]? = some (Vp.btC b))
    (hp : Vp.Putten W2 fs mb (k + 1) lv S.room (c.used + b.length) (Vp.setM c.map n (some id)) e w3) :
    Calls Try.prog 45 #[.pointer (some ⟨fs, 0, none⟩), .agg #[.int .i64 1, .pointer (some ⟨id, 0, none⟩), .int .i64 0, .slice none 0 0]] w3 fun e w' => e = .returned (.tuple #[]) ∧ Vp.Left w M fs (N + 2) (S.act ⟨1, n, 0, b⟩) w' := by
  have hnI : ¬ I id := fun h => by have := h1.lt (.inr (.inr (.inr (.inl h)))); omega
  have hl := h1.laid (f := ⟨n, b⟩) hB hid hd hf hbb hn1 hb1
  have h0 : (c.lay id ⟨n, b⟩).sto id = ⟨n, b⟩ := Vp.setS_same _ _ _
  have hput : (c.lay id ⟨n, b⟩).put id = ⟨Vp.setM c.map n (some id), (c.lay id ⟨n, b⟩).sto, c.used + (b.length : Int)⟩ := by unfold Vp.Co.put; rw [h0]; rfl
  obtain ⟨mb', mv', p1, p2, p3⟩ := hl.putten (k' := k + 1) (N' := N + 1) hp (by omega) ⟨fun m i e => by
    have e : Vp.setM c.map n (some id) m = some i := e
    unfold Vp.setM at e
    split at e
    · obtain rfl := Option.some.inj e
      exact .inr rfl
    · exact .inl (h1.live.1 m i e), fun o ho => .inl (h1.live.2 o ho)⟩
  have hs : ∃ b, mb' = some b := by
    obtain ⟨kk, _, hm⟩ := p1.map
    exact hm.some_ (n := n) (id := id) (Vp.setM_same _ _ _)
  have hh := h2.create h1.live (n := n) (b := b) hn hnI
  rw [hput] at hh
  refine note_last (o := ⟨1, id, 0, []⟩) (a := ⟨1, n, 0, b⟩) p1 (by omega) hh h3 (.inr rfl) hs (nil_bs _ _) ((Kp.of_below hB).trans p2 (fun i hi e => ?_)) (Vp.own_map (n := W2.heap.size) (fun b' hb' => ?_) p3 (fun b' hb' => .inr (Nat.le_trans hB.size hb')))
  · rcases e with e | e
    · exact h4 i (.inl e)
    · exact h4 i (.inr (.inl e))
  · rcases hb' with hb | hb | hb | hb | ⟨i, hi, hb⟩ | hb
    · exact .inl (h4 b' (.inl hb))
    · exact .inl (h4 b' (.inr (.inl hb)))
    · exact .inl (h4 b' (.inr (.inr (.inl hb))))
    · rcases hb with hb | rfl
      · exact .inl (h4 b' (.inr (.inr (.inr (.inl hb)))))
      · exact .inr hid
    · have hb : (if i = id then d else db i) = b' := hb
      by_cases e : i = id
      · rw [if_pos e] at hb
        exact .inr (by omega)
      · rw [if_neg e] at hb
        rcases hi with hi | hi
        · exact .inl (h4 b' (.inr (.inr (.inr (.inr (.inl ⟨i, hi, hb⟩))))))
        · exact absurd hi e
    · exact .inl (h4 b' (.inr (.inr (.inr (.inr (.inr hb))))))

set_option maxRecDepth 100000 in
set_option maxHeartbeats 1600000 in
theorem pcreate_any {w : World} {M Gq : Nat → Prop} {fs N : Nat} {S : Vf.Sv} (h : Vp.Pg w M fs N S) (n : List UInt8) (ps : List (List UInt8)) (pv : Value) (hp : Vf.Ps w Gq pv ps)
    (hN : N ≤ 1048575) (hu : Vf.used S.now ≤ 4294967296) (hr0 : 0 ≤ S.room) (hr1 : S.room ≤ 1073741824) (hpl : ps.length ≤ 1048576) (hpt : ps.flatten.length ≤ 1073741824) (hGq : ∀ b, Gq b → b < w.heap.size) :
    Calls Try.prog 16 #[.pointer (some ⟨fs, 0, none⟩), .string ⟨n.toArray⟩, pv] w (Vp.PNext w M fs (N + 2) (Vf.create S n ps.flatten).1 (.int .i64 (Vf.create S n ps.flatten).2)) := by
  have hg := h
  obtain ⟨mb, lr, I, db, G, c, j, lv, mv, ys, h1, h2, h3, h4⟩ := h
  have hv := Vp.view_now h2 h3
  obtain ⟨k, hk, hm⟩ := h1.map
  have HI := Lib.hid (isName_any n w)
  have HL := Lib.hid (length_any ps pv Gq w hp hpl (by omega))
  obtain ⟨c0, c1, c2, c3, cf, fsl⟩ := Vp.fs_cells h1.heap
  have u0 : 0 ≤ c.used := by rw [hv.used]; omega
  have u1 : c.used ≤ 4294967296 := by rw [hv.used]; omega
  have HG := Lib.hid (hg.more (N' := N + 2) (by omega))
  have hpf : ∃ A m c, pv = .slice A m c := by
    obtain ⟨A, c, xs, e, _⟩ := hp
    exact ⟨A, _, c, e⟩
  cases hi : Vf.is n
  · rw [hi] at HI
    have HR := Lib.hid (Vp.create_bad (S := S) (b := ps.flatten) hi)
    obtain ⟨A, m, cc, rfl⟩ := hpf
    clear h1 h2 h3 h4 hv hm hi hg hp cf
    generalize ps.flatten = b at *
    go_enter Try.func16, Try.ntmps16
    go_wp2_with (go_at_call 40; ((with_reducible refine (HI.out).mono ?_); rintro e w' ⟨rfl, rfl⟩))
    go_ret
    exact Vp.PNext.same HG.out HR.out
  · rw [hi] at HI
    have hnl : n.length ≤ 255 := by unfold Vf.is at hi; simp at hi; omega
    have hlook := hm.look (n := n) (by omega)
    cases hn : c.map n with
    | some id =>
      have HR := Lib.hid (Vp.create_has (b := ps.flatten) hv hi hn)
      rw [hn] at hlook
      unfold Vp.ptr at hlook
      obtain ⟨A, m, cc, rfl⟩ := hpf
      clear h1 h2 h3 h4 hv hm hi hg hp cf hn
      generalize ps.flatten = b at *
      go_enter Try.func16, Try.ntmps16
      go_wp2_with (go_at_call 40; ((with_reducible refine (HI.out).mono ?_); rintro e w' ⟨rfl, rfl⟩))
      go_ret
      exact Vp.PNext.same HG.out HR.out
    | none =>
      rw [hn] at hlook
      unfold Vp.ptr at hlook
      have hw1 : IntKind.i64.wrap (S.room - c.used) = S.room - c.used := IntWalk.i64_in _ (by omega)
      by_cases hb : S.room - c.used < (ps.flatten.length : Int)
      · have HR := Lib.hid (Vp.create_full hv hi hn hb)
        obtain ⟨A, m, cc, rfl⟩ := hpf
        clear h1 h2 h3 h4 hv hm hi hg hp cf hn
        have hpt' : (ps.flatten.length : Int) ≤ 1073741824 := by omega
        generalize hbb : ps.flatten = b at *
        clear hbb
        go_enter Try.func16, Try.ntmps16
        go_wp2_with (first | (go_at_call 40; ((with_reducible refine (HI.out).mono ?_); rintro e w' ⟨rfl, rfl⟩)) | (go_at_call 41; ((with_reducible refine (HL.out).mono ?_); rintro e w' ⟨rfl, rfl⟩)))
        go_quiet (fail)
        all_goals
          go_wp2_with fail
          go_ret
          exact ⟨by rw [HR.out]; rfl, M, by rw [HR.out]; exact HG.out.below ⟨rfl, rfl, rfl, Nat.le_refl _, fun _ _ => rfl⟩, (Kp.refl _ _).drewN _, fun b hb => .inl hb⟩
      · have HR := Lib.hid (Vp.create_ok hv hi hn hb)
        have HC : Hid (∀ W : World, Calls Try.prog 42 #[.string ⟨n.toArray⟩] W fun e w' => e = .returned (.string ⟨n.toArray⟩) ∧ Below W.heap.size W w') := Lib.hid (fun W => strClone_any n W (by omega))
        have hmk := make_bytes ps.flatten.length (by omega)
        have hpt' : (ps.flatten.length : Int) ≤ 1073741824 := by omega
        obtain ⟨A, m, cc, rfl⟩ := hpf
        have HFILL : Hid (∀ (W : World) (d : Nat), Below w.heap.size w W → w.heap.size ≤ d → W.heap[d]? = some (Vp.btC (noughts ps.flatten.length)) → Calls Try.prog 43 #[.slice (some ⟨d, 0, none⟩) ps.flatten.length ps.flatten.length, .slice A m cc] W (Vp.Filled W d ps.flatten)) := Lib.hid fun W d hB hd hh => by
          have := fill_any ps (.slice A m cc) Gq W d 0 ps.flatten.length ps.flatten.length (noughts ps.flatten.length) hh (hp.keep hB.size (fun i hi _ => hB.block i hi)) (fun i hi e => by have := hGq i hi; omega) rfl (by rw [noughts_len]; omega) (Nat.le_refl _) (by omega) hpl
          rw [upd_all (by rw [noughts_len])] at this
          exact this
        have HPUT : Hid (∀ (W : World) (id d : Nat), Below w.heap.size w W → W.heap[id]? = some (Vp.flC n d ps.flatten.length) → Calls Try.prog 44 #[.pointer (some ⟨fs, 0, none⟩), .pointer (some ⟨id, 0, none⟩)] W (Vp.Putten W fs mb (k + 1) lv S.room (c.used + ps.flatten.length) (Vp.setM c.map n (some id)))) := Lib.hid fun W id d hB hh => by
          have hW := h1.below hB
          exact put_any hW.heap (hm.keep (fun b hb => hB.block b (hm.lt hb).1)) hh (by omega) (by omega) (by omega) (by omega) (by omega)
        have HNOTE : Hid (∀ (W2 w3 : World) (id d : Nat), Below w.heap.size w W2 → w.heap.size ≤ id → w.heap.size ≤ d → W2.heap[id]? = some (Vp.flC n d ps.flatten.length) → W2.heap[d]? = some (Vp.btC ps.flatten) → Vp.Putten W2 fs mb (k + 1) lv S.room (c.used + ps.flatten.length) (Vp.setM c.map n (some id)) (.returned (.tuple #[])) w3 →
            Calls Try.prog 45 #[.pointer (some ⟨fs, 0, none⟩), .agg #[.int .i64 1, .pointer (some ⟨id, 0, none⟩), .int .i64 0, .slice none 0 0]] w3 fun e w' => e = .returned (.tuple #[]) ∧ Vp.Left w M fs (N + 2) (S.act ⟨1, n, 0, ps.flatten⟩) w') := Lib.hid fun W2 w3 id d hB h5 h6 h7 h8 h9 =>
          create_note h1 h2 h3 h4 hk hN hn hnl hpt hB h5 h6 h7 h8 h9
        clear h2 h3 h4 hv hm hi hg hp cf hn h1 hGq
        generalize ps.flatten = b at *
        go_enter Try.func16, Try.ntmps16
        go_wp2_with (first | (go_at_call 40; ((with_reducible refine (HI.out).mono ?_); rintro e w' ⟨rfl, rfl⟩)) | (go_at_call 41; ((with_reducible refine (HL.out).mono ?_); rintro e w' ⟨rfl, rfl⟩)))
        go_region
        all_goals
          go_wp2_with fail
          go_region_with (go_at_call 42; (with_reducible refine (HC.out _).mono ?_); rintro e w1 ⟨rfl, hb1⟩)
          all_goals
            first
              | (obtain ⟨W, hW⟩ : ∃ W, W = (w1.alloc (.cells (by8 (noughts b.length)).toArray 5)).alloc (.cells #[.string ⟨n.toArray⟩, .slice (some ⟨w1.heap.size, 0, none⟩) b.length b.length] 80) := ⟨_, rfl⟩
                 rw [← hW]
                 obtain ⟨id, hid⟩ : ∃ id, id = w1.heap.size + 1 := ⟨_, rfl⟩
                 obtain ⟨d, hd⟩ : ∃ d, d = w1.heap.size := ⟨_, rfl⟩
                 have hb2 : Below w.heap.size w w1 := ⟨hb1.os, hb1.tape, hb1.output, hb1.size, hb1.block⟩
                 have hsz := hb2.size
                 have HB : Below w.heap.size w W := hW ▸ ((hb2.alloc hsz _).alloc (by simp; omega) _)
                 have HF : W.heap[id]? = some (Vp.flC n d b.length) := by
                   have := heap_alloc_new (w1.alloc (.cells (by8 (noughts b.length)).toArray 5)) (.cells #[.string ⟨n.toArray⟩, .slice (some ⟨w1.heap.size, 0, none⟩) b.length b.length] 80)
                   have hs9 : (w1.alloc (.cells (by8 (noughts b.length)).toArray 5)).heap.size = w1.heap.size + 1 := by simp
                   rw [← hW, hs9] at this
                   rw [hid, hd]
                   exact this
                 have HD : W.heap[d]? = some (Vp.btC (noughts b.length)) := by
                   rw [hW, hd, Below.heap_alloc _ _ w1.heap.size (by simp)]
                   exact heap_alloc_new w1 _
                 have g1 : w.heap.size ≤ id := by omega
                 have g2 : w.heap.size ≤ d := by omega
                 have g3 : id ≠ d := by omega
                 rw [← hid, ← hd]
                 clear hW hid hd hb1 hb2 hsz)
              | (obtain ⟨W, hW⟩ : ∃ W, W = w1.alloc (.cells #[.string ⟨n.toArray⟩, .slice (some ⟨w.heap.size, 0, none⟩) b.length b.length] 80) := ⟨_, rfl⟩
                 rw [← hW]
                 obtain ⟨id, hid⟩ : ∃ id, id = w1.heap.size := ⟨_, rfl⟩
                 obtain ⟨d, hd⟩ : ∃ d, d = w.heap.size := ⟨_, rfl⟩
                 have hb2 : Below (w.alloc (.cells (by8 (noughts b.length)).toArray 5)).heap.size (w.alloc (.cells (by8 (noughts b.length)).toArray 5)) w1 := ⟨hb1.os, hb1.tape, hb1.output, hb1.size, hb1.block⟩
                 have hs0 : (w.alloc (.cells (by8 (noughts b.length)).toArray 5)).heap.size = w.heap.size + 1 := by simp
                 have hsz := hb2.size
                 rw [hs0] at hsz
                 have hb3 : Below w.heap.size w w1 := ((Below.refl _ _).alloc (Nat.le_refl _) _).trans (hb2.mono (by omega))
                 have HB : Below w.heap.size w W := hW ▸ (hb3.alloc (by omega) _)
                 have HF : W.heap[id]? = some (Vp.flC n d b.length) := by
                   rw [hW, hid, hd]
                   exact heap_alloc_new w1 _
                 have HD : W.heap[d]? = some (Vp.btC (noughts b.length)) := by
                   rw [hW, hd, Below.heap_alloc _ _ w.heap.size (by omega)]
                   exact (hb2.block w.heap.size (by omega)).trans (heap_alloc_new w _)
                 have g1 : w.heap.size ≤ id := by omega
                 have g2 : w.heap.size ≤ d := by omega
                 have g3 : id ≠ d := by omega
                 rw [← hid, ← hd]
                 clear hW hid hd hb1 hb2 hb3 hsz hs0)
            obtain ⟨e0, e1, idl⟩ := Vp.fl_cells HF
            have HF1 := Lib.hid (HFILL.out W d HB g2 HD)
            have HF' := Lib.hid HF
            have g1' := Lib.hid g1
            have g2' := Lib.hid g2
            have g3' := Lib.hid g3
            have HB' := Lib.hid HB
            clear HF HD g1 g2 g3 HB HFILL c0 c1 c2 c3 hlook
            go_wp2_with (first | (go_at_call 43; (with_reducible refine (HF1.out).mono ?_); rintro e W2 ⟨rfl, hd2, hk2, hs2⟩; have HB2 : Hid (Below w.heap.size w W2) := Lib.hid (((Kp.of_below (O := fun i => i = d) HB'.out).trans hk2 (fun i hi e => e)).below (Nat.le_refl _) (fun i hi e => by have := g2'.out; omega)); have HFL2 : Hid (W2.heap[id]? = some (Vp.flC n d b.length)) := Lib.hid ((hk2.block id idl g3'.out).trans HF'.out); have HD2 := Lib.hid hd2; have HX := Lib.hid (HPUT.out W2 id d HB2.out HFL2.out); clear hd2 hk2 hs2) | (go_at_call 44; (with_reducible refine (HX.out).mono ?_); rintro e w3 hp3; obtain rfl := hp3.1; have HY := Lib.hid (HNOTE.out W2 w3 id d HB2.out g1'.out g2'.out HFL2.out HD2.out hp3); clear hp3) | (go_at_call 45; (with_reducible refine (HY.out).mono ?_); rintro e w4 ⟨rfl, hl⟩; have HLL := Lib.hid hl; clear hl))
            go_ret
            exact Vp.Left.next HLL.out HR.out
end Go.Proofs.Ytiacpopgnmledaa
