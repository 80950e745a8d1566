/-
  CONTRACTS: the program's files as an object: Read.
-/
import Derived.Test.YtiacpopgnmledaaVpAct
namespace Go.Proofs.Ytiacpopgnmledaa
open Go.RowKit
open Me Vf
theorem Me.Bs.block {w : World} {G : Nat → Prop} {b : Nat} {l : List UInt8} {t : TypeId} {n : Nat} {fr : Nat × Nat} (h : w.heap[b]? = some (.cells (by8 l).toArray t fr)) (hg : G b) (hn : l.length = n) (hl : l.length ≤ 4294967296) : Bs w G (.slice (some ⟨b, 0, none⟩) n n) l := by
  subst hn
  refine ⟨some ⟨b, 0, none⟩, l.length, rfl, Nat.le_refl _, by unfold maxLen; omega, fun _ => ⟨_, rfl, (Array.getElem?_eq_some_iff.1 h).1, hg, fun j u hu => ?_⟩⟩
  rw [Addr.add_lit, Nat.zero_add, cell_of_row w b j _ _ _ h]
  simpa using hu
theorem Me.Rd.block {w : World} {G : Nat → Prop} {b : Nat} {l : List UInt8} {t : TypeId} (h : w.heap[b]? = some (.cells (by8 l).toArray t (0, 0))) (hg : G b) (o n : Nat) : Rd w G (some ⟨b, o, none⟩) (by8 ((l.drop o).take n)) := fun _ => by
  refine ⟨_, rfl, (Array.getElem?_eq_some_iff.1 h).1, hg, fun j u hu => ?_⟩
  rw [Addr.add_lit, cell_of_row w b (o + j) _ _ _ h]
  rw [← by8_take, ← by8_drop, List.getElem?_take] at hu
  split at hu
  · rw [List.getElem?_drop] at hu
    simpa using hu
  · cases hu

set_option maxRecDepth 100000 in
set_option maxHeartbeats 1000000 in
theorem pread_any {w : World} {M : Nat → Prop} {fs N : Nat} {S : Vf.Sv} (h : Vp.Pg w M fs N S) (n : List UInt8) (t m : Int) (hti : t ≤ 9223372036854775807) :
    Calls Try.prog 20 #[.pointer (some ⟨fs, 0, none⟩), .string ⟨n.toArray⟩, .int .i64 t, .int .i64 m] w (Vf.Handed w (Vf.read S.now n t m)) := by
  obtain ⟨mb, lr, I, db, G, c, j, lv, mv, ys, h1, h2, h3, h4⟩ := h
  have hv := Vp.view_now h2 h3
  obtain ⟨k, hk, hm⟩ := h1.map
  cases hi : Vf.is n
  · have HF := Lib.hid (find_bad (w := w) fs n hi)
    have HR := Lib.hid (Vp.read_bad (l := S.now) (t := t) (m := m) hi)
    clear h1 h2 h3 h4 hv hm hi
    go_enter Try.func20, Try.ntmps20
    go_wp2_with (go_at_call 46; ((with_reducible refine (HF.out).mono ?_); rintro e w' ⟨rfl, rfl⟩))
    ((try simp only [Exit.inBlock, Exit.then]); refine bodyPost_ret (results_tmp2 rfl _ _ _) rfl ?_)
    exact Vf.Handed.no HR.out
  · cases hn : c.map n with
    | none =>
      have HF := Lib.hid (find_none h1.heap hm n hi hn)
      have HR := Lib.hid (Vp.read_none (t := t) (m := m) hv hi hn)
      clear h1 h2 h3 h4 hv hm hi hn
      go_enter Try.func20, Try.ntmps20
      go_wp2_with (go_at_call 46; ((with_reducible refine (HF.out).mono ?_); rintro e w' ⟨rfl, rfl⟩))
      ((try simp only [Exit.inBlock, Exit.then]); refine bodyPost_ret (results_tmp2 rfl _ _ _) rfl ?_)
      exact Vf.Handed.no HR.out
    | some id =>
      have HF := Lib.hid (find_some h1.heap hm n hi hn)
      obtain ⟨f1, f2, f3, f4⟩ := h1.file id (h1.live.1 n id hn)
      obtain ⟨e0, e1, hidl⟩ := Vp.fl_cells f1
      have HR1 : Hid (∀ t m : Int, t < 0 ∨ m < 0 ∨ ((c.sto id).b.length : Int) - t < m → Vf.read S.now n t m = ([], 1)) := Lib.hid fun t m hb => Vp.read_off hv hi hn hb
      have HR2 : Hid (∀ t m : Nat, t + m ≤ (c.sto id).b.length → Vf.read S.now n (t : Int) (m : Int) = ((((c.sto id).b).drop t).take m, 0)) := Lib.hid fun t m hb => Vp.read_ok hv hi hn hb
      have HB := Lib.hid f2
      have hdl : db id < w.heap.size := (Array.getElem?_eq_some_iff.1 f2).1
      have hl : ((c.sto id).b.length : Int) ≤ 1073741824 := by omega
      clear h1 h2 h3 h4 hv hm hi hn f1 f2 f3 f4
      generalize Vf.read S.now n = r at *
      generalize (c.sto id).b = bb at *
      generalize db id = d at *
      by_cases ht : t < 0
      · have HR := Lib.hid (HR1.out t m (.inl ht))
        clear HR1 HR2
        go_enter Try.func20, Try.ntmps20
        go_wp2_with (go_at_call 46; ((with_reducible refine (HF.out).mono ?_); rintro e w' ⟨rfl, rfl⟩))
        ((try simp only [Exit.inBlock, Exit.then]); refine bodyPost_ret (results_tmp2 rfl _ _ _) rfl ?_)
        exact Vf.Handed.no HR.out
      · obtain ⟨t, rfl⟩ : ∃ t' : Nat, t = (t' : Int) := ⟨t.toNat, by omega⟩
        clear ht
        by_cases hm : m < 0
        · have HR := Lib.hid (HR1.out t m (.inr (.inl hm)))
          clear HR1 HR2
          go_enter Try.func20, Try.ntmps20
          go_wp2_with (go_at_call 46; ((with_reducible refine (HF.out).mono ?_); rintro e w' ⟨rfl, rfl⟩))
          ((try simp only [Exit.inBlock, Exit.then]); refine bodyPost_ret (results_tmp2 rfl _ _ _) rfl ?_)
          exact Vf.Handed.no HR.out
        · obtain ⟨m, rfl⟩ : ∃ m' : Nat, m = (m' : Int) := ⟨m.toNat, by omega⟩
          clear hm
          by_cases h2 : (bb.length : Int) - (t : Int) < (m : Int)
          · have HR := Lib.hid (HR1.out t m (.inr (.inr h2)))
            have hwr : IntKind.i64.wrap ((bb.length : Int) - (t : Int)) = (bb.length : Int) - (t : Int) := IntWalk.i64_in _ (by omega)
            clear HR1 HR2
            go_enter Try.func20, Try.ntmps20
            go_wp2_with (go_at_call 46; ((with_reducible refine (HF.out).mono ?_); rintro e w' ⟨rfl, rfl⟩))
            ((try simp only [Exit.inBlock, Exit.then]); refine bodyPost_ret (results_tmp2 rfl _ _ _) rfl ?_)
            exact Vf.Handed.no HR.out
          · have HR := Lib.hid (HR2.out t m (by omega))
            clear HR1 HR2
            have hwr : IntKind.i64.wrap ((bb.length : Int) - (t : Int)) = (bb.length : Int) - (t : Int) := IntWalk.i64_in _ (by omega)
            have hnl : Hid (((bb.drop t).take m).length = m) := Lib.hid (by rw [List.length_take, List.length_drop]; omega)
            have hmk := make_bytes m (by omega)
            have hbW : Below w.heap.size w (w.alloc (.cells (by8 (noughts m)).toArray 5)) := (Below.refl _ _).alloc (Nat.le_refl _) _
            have HB2 := Lib.hid ((hbW.block d hdl).trans HB.out)
            have e1' : (w.alloc (.cells (by8 (noughts m)).toArray 5)).cell? ⟨id, 1, none⟩ = some (.slice (some ⟨d, 0, none⟩) bb.length bb.length) := (hbW.cell (p := ⟨id, 1, none⟩) hidl).trans e1
            have HN := Lib.hid (heap_alloc_new w (.cells (by8 (noughts m)).toArray 5))
            have HMin : Hid (((bb.drop t).take m).length = Nat.min (bb.length - t) m) := Lib.hid (by rw [hnl.out]; exact (Nat.min_eq_right (by omega)).symm)
            have hfit : Hid (0 + ((bb.drop t).take m).length ≤ (noughts m).length) := Lib.hid (by rw [hnl.out, noughts_len]; omega)
            have htl : t ≤ bb.length := by omega
            have hml : m ≤ bb.length - t := by omega
            have HEND : Hid (∀ w1, Hid (w1.heap[w.heap.size]? = some (.cells (by8 (upd (noughts m) 0 ((bb.drop t).take m))).toArray 5 (0, 0))) → Kp (fun b => b = w.heap.size) (w.alloc (.cells (by8 (noughts m)).toArray 5)) w1 → Vf.Handed w ((bb.drop t).take m, 0) (.returned (.tuple #[.slice (some ⟨w.heap.size, 0, none⟩) m m, .int .i64 0])) w1) := Lib.hid (fun w1 h1 h2 => by
              have h1 := h1.out
              rw [upd_all (by rw [hnl.out, noughts_len])] at h1
              refine ⟨_, rfl, Bs.block h1 (Nat.le_refl _) hnl.out (by rw [hnl.out]; omega), ?_⟩
              exact ⟨h2.os, h2.tape, h2.output, Nat.le_trans hbW.size h2.size, fun b hb => (h2.block b (by simp; omega) (fun e => by omega)).trans (hbW.block b hb)⟩)
            by_cases heq : t = bb.length
            · have hm0 : m = 0 := by omega
              have HRD : Hid (Rd (w.alloc (.cells (by8 (noughts m)).toArray 5)) (fun b => b = d) (some ⟨d, 0, none⟩) (by8 ((bb.drop t).take m))) := Lib.hid (by rw [hm0, List.take_zero]; exact Rd.none_ _ _ _)
              have HMin0 : Hid (((bb.drop t).take m).length = Nat.min 0 m) := Lib.hid (by rw [hnl.out, hm0]; rfl)
              clear hbW hm0
              generalize hp : (bb.drop t).take m = p at *
              clear hp
              subst heq
              go_enter Try.func20, Try.ntmps20
              go_wp2_with (first | (go_at_call 46; ((with_reducible refine (HF.out).mono ?_); rintro e w' ⟨rfl, rfl⟩)) | (with_reducible refine wpList_copy_bs rfl (.tmp 41) (.tmp 47) 40 40 rfl 5 Try.underlying40 sizeU8 (some ⟨w.heap.size, 0, none⟩) (some ⟨d, 0, none⟩) m m 0 0 rfl rfl w.heap.size 0 _ p 5 HN.out HMin0.out (fun _ => rfl) _ HRD.out hfit.out ?_; intro w1 hd1 hk1 hs1))
              all_goals
                ((try simp only [Exit.inBlock, Exit.then]); refine bodyPost_ret (results_tmp2 rfl _ _ _) rfl ?_)
                rw [HR.out]
                exact HEND.out w1 hd1 hk1
            · have HRD : Hid (Rd (w.alloc (.cells (by8 (noughts m)).toArray 5)) (fun b => b = d) (some ⟨d, t, none⟩) (by8 ((bb.drop t).take m))) := Lib.hid (Rd.block (G := fun b => b = d) HB2.out rfl t m)
              have heq2 : ¬ bb.length = t := fun e => heq e.symm
              clear hbW
              generalize hp : (bb.drop t).take m = p at *
              clear hp
              go_enter Try.func20, Try.ntmps20
              go_wp2_with (first | (go_at_call 46; ((with_reducible refine (HF.out).mono ?_); rintro e w' ⟨rfl, rfl⟩)) | (with_reducible refine wpList_copy_bs rfl (.tmp 41) (.tmp 47) 40 40 rfl 5 Try.underlying40 sizeU8 (some ⟨w.heap.size, 0, none⟩) (some ⟨d, t, none⟩) m m (bb.length - t) (bb.length - t) rfl rfl w.heap.size 0 _ p 5 HN.out HMin.out (fun _ => rfl) _ HRD.out hfit.out ?_; intro w1 hd1 hk1 hs1))
              all_goals
                ((try simp only [Exit.inBlock, Exit.then]); refine bodyPost_ret (results_tmp2 rfl _ _ _) rfl ?_)
                rw [HR.out]
                exact HEND.out w1 hd1 hk1
end Go.Proofs.Ytiacpopgnmledaa
