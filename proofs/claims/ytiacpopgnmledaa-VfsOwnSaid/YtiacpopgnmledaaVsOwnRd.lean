/-
  CONTRACTS: the program's files as an object: Read's answer is a row of its own.
-/
import Derived.Test.YtiacpopgnmledaaVpRead
namespace Go.Proofs.Ytiacpopgnmledaa
open Go.RowKit
open Me Vf
/-- What Read leaves, where it reads. -/
def Vp.Owned (w : World) (l : List UInt8) (e : Ending) (w' : World) : Prop := e = .returned (.tuple #[.slice (some ⟨w.heap.size, 0, none⟩) l.length l.length, .int .i64 0]) ∧ w'.ownsRow w.heap.size 5 1 (.slice (some ⟨w.heap.size, 0, none⟩) l.length l.length) l.length (by8 l) ∧ Below w.heap.size w w'

set_option maxRecDepth 100000 in
set_option maxHeartbeats 1000000 in
theorem pread_own {w : World} {M : Nat → Prop} {fs N : Nat} {S : Vf.Sv} (h : Vp.Pg w M fs N S) (n : List UInt8) (t m : Nat) (l : List UInt8) (hi : Vf.is n = true) (hrd : Vf.read S.now n (t : Int) (m : Int) = (l, 0)) (hlm : l.length = m) (hti : (t : Int) ≤ 9223372036854775807) :
    Calls Try.prog 20 #[.pointer (some ⟨fs, 0, none⟩), .string ⟨n.toArray⟩, .int .i64 (t : Int), .int .i64 (m : Int)] w (Vp.Owned w l) := by
  obtain ⟨mb, lr, I, db, G, c, j, lv, mv, ys, h1, h2, h3, h4⟩ := h
  have hv := Vp.view_now h2 h3
  obtain ⟨k, hk, hm⟩ := h1.map
  obtain ⟨id, hn⟩ : ∃ id, c.map n = some id := by
    cases hn : c.map n with
    | none =>
      rw [Vp.read_none hv hi hn] at hrd
      simp at hrd
    | some id => exact ⟨id, rfl⟩
  have HF := Lib.hid (find_some h1.heap hm n hi hn)
  obtain ⟨f1, f2, f3, f4⟩ := h1.file id (h1.live.1 n id hn)
  obtain ⟨e0, e1, hidl⟩ := Vp.fl_cells f1
  have hofs : ¬ (((c.sto id).b.length : Int) - (t : Int) < (m : Int)) := fun hb => by
    rw [Vp.read_off hv hi hn (.inr (.inr hb))] at hrd
    simp at hrd
  have hex : ((c.sto id).b.drop t).take m = l := by
    rw [Vp.read_ok hv hi hn (by omega)] at hrd
    exact congrArg Prod.fst hrd
  have HB := Lib.hid f2
  have hdl : db id < w.heap.size := (Array.getElem?_eq_some_iff.1 f2).1
  have hl : ((c.sto id).b.length : Int) ≤ 1073741824 := by omega
  clear h1 h2 h3 h4 hv hm hi hn f1 f2 f3 f4 hrd
  generalize (c.sto id).b = bb at *
  generalize db id = d at *
  have hwr : IntKind.i64.wrap ((bb.length : Int) - (t : Int)) = (bb.length : Int) - (t : Int) := IntWalk.i64_in _ (by omega)
  have hnl : Hid (((bb.drop t).take m).length = m) := Lib.hid (by rw [List.length_take, List.length_drop]; omega)
  have hmk := make_bytes m (by omega)
  have hbW : Below w.heap.size w (w.alloc (.cells (by8 (noughts m)).toArray 5)) := (Below.refl _ _).alloc (Nat.le_refl _) _
  have HB2 := Lib.hid ((hbW.block d hdl).trans HB.out)
  have e1' : (w.alloc (.cells (by8 (noughts m)).toArray 5)).cell? ⟨id, 1, none⟩ = some (.slice (some ⟨d, 0, none⟩) bb.length bb.length) := (hbW.cell (p := ⟨id, 1, none⟩) hidl).trans e1
  have HN := Lib.hid (heap_alloc_new w (.cells (by8 (noughts m)).toArray 5))
  have HMin : Hid (((bb.drop t).take m).length = Nat.min (bb.length - t) m) := Lib.hid (by rw [hnl.out]; exact (Nat.min_eq_right (by omega)).symm)
  have hfit : Hid (0 + ((bb.drop t).take m).length ≤ (noughts m).length) := Lib.hid (by rw [hnl.out, noughts_len]; omega)
  have htl : t ≤ bb.length := by omega
  have hml : m ≤ bb.length - t := by omega
  have HEND : Hid (∀ w1, Hid (w1.heap[w.heap.size]? = some (.cells (by8 (upd (noughts m) 0 ((bb.drop t).take m))).toArray 5 (0, 0))) → Kp (fun b => b = w.heap.size) (w.alloc (.cells (by8 (noughts m)).toArray 5)) w1 → Vp.Owned w l (.returned (.tuple #[.slice (some ⟨w.heap.size, 0, none⟩) m m, .int .i64 0])) w1) := Lib.hid (fun w1 h1 h2 => by
    have h1 := h1.out
    rw [upd_all (by rw [hnl.out, noughts_len])] at h1
    rw [hex] at h1
    refine ⟨by rw [hlm], ⟨by rw [by8_len]; omega, .inr ⟨w.heap.size, l.length, _, rfl, Nat.le_refl _, h1, Nat.le_refl _, by unfold maxLen; omega, by simp [by8_len], by rw [Nat.mul_one, List.toList_toArray]; exact List.take_of_length_le (by rw [by8_len]; exact Nat.le_refl _)⟩⟩, ?_⟩
    exact ⟨h2.os, h2.tape, h2.output, Nat.le_trans hbW.size h2.size, fun b hb => (h2.block b (by simp; omega) (fun e => by omega)).trans (hbW.block b hb)⟩)
  by_cases heq : t = bb.length
  · have hm0 : m = 0 := by omega
    have HRD : Hid (Rd (w.alloc (.cells (by8 (noughts m)).toArray 5)) (fun b => b = d) (some ⟨d, 0, none⟩) (by8 ((bb.drop t).take m))) := Lib.hid (by rw [hm0, List.take_zero]; exact Rd.none_ _ _ _)
    have HMin0 : Hid (((bb.drop t).take m).length = Nat.min 0 m) := Lib.hid (by rw [hnl.out, hm0]; rfl)
    clear hbW hm0 hex
    generalize hp : (bb.drop t).take m = p at *
    clear hp
    subst heq
    go_enter Try.func20, Try.ntmps20
    go_wp2_with (first | (go_at_call 46; ((with_reducible refine (HF.out).mono ?_); rintro e w' ⟨rfl, rfl⟩)) | (with_reducible refine wpList_copy_bs rfl (.tmp 41) (.tmp 47) 40 40 rfl 5 Try.underlying40 sizeU8 (some ⟨w.heap.size, 0, none⟩) (some ⟨d, 0, none⟩) m m 0 0 rfl rfl w.heap.size 0 _ p 5 HN.out HMin0.out (fun _ => rfl) _ HRD.out hfit.out ?_; intro w1 hd1 hk1 hs1))
    all_goals
      ((try simp only [Exit.inBlock, Exit.then]); refine bodyPost_ret (results_tmp2 rfl _ _ _) rfl ?_)
      exact HEND.out w1 hd1 hk1
  · have HRD : Hid (Rd (w.alloc (.cells (by8 (noughts m)).toArray 5)) (fun b => b = d) (some ⟨d, t, none⟩) (by8 ((bb.drop t).take m))) := Lib.hid (Rd.block (G := fun b => b = d) HB2.out rfl t m)
    have heq2 : ¬ bb.length = t := fun e => heq e.symm
    clear hbW hex
    generalize hp : (bb.drop t).take m = p at *
    clear hp
    go_enter Try.func20, Try.ntmps20
    go_wp2_with (first | (go_at_call 46; ((with_reducible refine (HF.out).mono ?_); rintro e w' ⟨rfl, rfl⟩)) | (with_reducible refine wpList_copy_bs rfl (.tmp 41) (.tmp 47) 40 40 rfl 5 Try.underlying40 sizeU8 (some ⟨w.heap.size, 0, none⟩) (some ⟨d, t, none⟩) m m (bb.length - t) (bb.length - t) rfl rfl w.heap.size 0 _ p 5 HN.out HMin.out (fun _ => rfl) _ HRD.out hfit.out ?_; intro w1 hd1 hk1 hs1))
    all_goals
      ((try simp only [Exit.inBlock, Exit.then]); refine bodyPost_ret (results_tmp2 rfl _ _ _) rfl ?_)
      exact HEND.out w1 hd1 hk1
end Go.Proofs.Ytiacpopgnmledaa
