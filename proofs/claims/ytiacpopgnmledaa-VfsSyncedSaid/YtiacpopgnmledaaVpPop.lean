/-
  CONTRACTS: the program's files: how many are pending; the latest taken out; all let go; a file found.
-/
import Derived.Test.YtiacpopgnmledaaVpJour
namespace Go.Proofs.Ytiacpopgnmledaa
open Go.RowKit
open Me Vf

namespace Vp
theorem own_form {w : World} {base n : Nat} {e : TypeId} {size : Nat} {v : Value} {xs : List Value} (h : w.ownsRow base e size v n xs) : ∃ A c, v = .slice A n c ∧ n ≤ c ∧ c ≤ maxLen := by
  rcases h.2 with ⟨rfl, h0⟩ | ⟨g, cap, cur, rfl, _, _, h1, h2, _⟩
  · exact ⟨none, 0, by rw [h0], by omega, Nat.zero_le _⟩
  · exact ⟨_, cap, rfl, h1, h2⟩
/-- A row with its last thing taken away. -/
theorem own_less {w : World} {base n : Nat} {e : TypeId} {size : Nat} {g c : Nat} {xs : List Value} (h : w.ownsRow base e size (.slice (some ⟨g, 0, none⟩) (n + 1) c) (n + 1) xs) : w.ownsRow base e size (.slice (some ⟨g, 0, none⟩) n c) n (xs.take (n * size)) := by
  obtain ⟨h1, h2⟩ := h
  have hm : (n + 1) * size = n * size + size := Nat.succ_mul n size
  refine ⟨by rw [List.length_take, h1]; omega, ?_⟩
  rcases h2 with ⟨h0, _⟩ | ⟨g', cap, cur, hv, hb, hh, hc, hcm, hcs, ht⟩
  · cases h0
  · injection hv with e1 e2 e3
    injection e1 with e1
    injection e1 with e1
    subst e1 e3
    refine .inr ⟨g, c, cur, rfl, hb, hh, by omega, hcm, hcs, ?_⟩
    rw [← ht, List.take_take, Nat.min_eq_left (by omega)]
end Vp

theorem count_any {w : World} {fs n : Nat} {lv mv : Value} {room used : Int} {ys : List Value} (hfs : w.heap[fs]? = some (Vp.fsC lv room used mv)) (hown : w.ownsRow 0 73 4 lv n ys) (hn : n ≤ 1048576) :
    Calls Try.prog 37 #[.pointer (some ⟨fs, 0, none⟩)] w fun e w' => e = .returned (.int .i64 (n : Int)) ∧ w = w' := by
  obtain ⟨c0, c1, c2, c3, cf, fsl⟩ := Vp.fs_cells hfs
  obtain ⟨A, c, rfl, hc, hcm⟩ := Vp.own_form hown
  have hn' : (n : Int) ≤ 1048576 := by omega
  clear hfs hown cf c1 c2 c3
  go_enter Try.func37, Try.ntmps37
  go_wp2_with fail
  go_ret
  exact ⟨rfl, rfl⟩

/-- What forget leaves. -/
def Vp.Forgot (w : World) (fs : Nat) (room used : Int) (mv : Value) (e : Ending) (w' : World) : Prop :=
  e = .returned (.tuple #[]) ∧ w'.heap[fs]? = some (Vp.fsC (.slice none 0 0) room used mv) ∧ Kp (fun b => b = fs) w w'
theorem forget_any {w : World} {fs : Nat} {lv mv : Value} {room used : Int} (hfs : w.heap[fs]? = some (Vp.fsC lv room used mv)) (hl : ∃ A n c, lv = .slice A n c) :
    Calls Try.prog 36 #[.pointer (some ⟨fs, 0, none⟩)] w (Vp.Forgot w fs room used mv) := by
  obtain ⟨c0, c1, c2, c3, cf, fsl⟩ := Vp.fs_cells hfs
  obtain ⟨A, n, c, rfl⟩ := hl
  have cf0 := cf 0
  have HFS := Lib.hid hfs
  clear hfs cf c1 c2 c3
  go_enter Try.func36, Try.ntmps36
  go_wp2_with fail
  ((try simp only [Exit.inBlock, Exit.then]); first | (refine bodyPost_ret (results_none rfl _ _ _) rfl ?_) | (refine bodyPost_end (results_none rfl _ _ _) rfl ?_))
  refine ⟨rfl, ?_, (Kp.refl (fun b => b = fs) w).setCell ⟨fs, 0, none⟩ (.inr rfl) _⟩
  rw [Vp.heap_cell HFS.out]
  rfl

/-- What pop leaves. -/
def Vp.Popped (w : World) (fs g n c : Nat) (room used : Int) (mv : Value) (op : Array Value) (e : Ending) (w' : World) : Prop :=
  e = .returned (.agg op) ∧ w'.heap[fs]? = some (Vp.fsC (.slice (some ⟨g, 0, none⟩) n c) room used mv) ∧ Kp (fun b => b = fs) w w'
set_option maxHeartbeats 1000000 in
theorem pop_any {w : World} {fs g n c on at_ : Nat} {mv : Value} {room used kind : Int} {A : Option Addr} {m cc : Nat} (hfs : w.heap[fs]? = some (Vp.fsC (.slice (some ⟨g, 0, none⟩) (n + 1) c) room used mv))
    (hn : n ≤ 1048576) (hc : n + 1 ≤ c) (hgl : g < w.heap.size)
    (h0 : w.cell? ⟨g, n * 4, none⟩ = some (.int .i64 kind)) (h1 : w.cell? ⟨g, n * 4 + 1, none⟩ = some (.pointer (some ⟨on, 0, none⟩))) (h2 : w.cell? ⟨g, n * 4 + 2, none⟩ = some (.int .i64 (at_ : Int))) (h3 : w.cell? ⟨g, n * 4 + 3, none⟩ = some (.slice A m cc)) :
    Calls Try.prog 38 #[.pointer (some ⟨fs, 0, none⟩)] w (Vp.Popped w fs g n c room used mv #[.int .i64 kind, .pointer (some ⟨on, 0, none⟩), .int .i64 (at_ : Int), .slice A m cc]) := by
  obtain ⟨c0, c1, c2, c3, cf, fsl⟩ := Vp.fs_cells hfs
  have cf0 := cf 0
  have hn' : (n : Int) ≤ 1048576 := by omega
  have hc' : (n : Int) + 1 ≤ (c : Int) := by omega
  have HFS := Lib.hid hfs
  clear hfs cf c1 c2 c3
  go_enter Try.func38, Try.ntmps38
  go_wp2_with go_in
  refine bodyPost_ret (v := .agg #[.int .i64 kind, .pointer (some ⟨on, 0, none⟩), .int .i64 (at_ : Int), .slice A m cc]) (by simp [results, Try.results38, go_sem]) rfl ⟨rfl, ?_, (((Kp.refl (fun b => b = fs) w).setCell ⟨fs, 0, none⟩ (.inr rfl) _).alloc _).alloc _⟩
  rw [Below.heap_alloc _ _ fs (by simp [World.setCell]; omega), Below.heap_alloc _ _ fs (by simp [World.setCell]; omega), Vp.heap_cell HFS.out]
  rfl

set_option maxHeartbeats 400000 in
theorem find_bad {w : World} (fs : Nat) (n : List UInt8) (hi : Vf.is n = false) :
    Calls Try.prog 46 #[.pointer (some ⟨fs, 0, none⟩), .string ⟨n.toArray⟩] w fun e w' => e = .returned (.tuple #[.pointer none, .int .i64 1]) ∧ w = w' := by
  have HI := Lib.hid (isName_any n w)
  rw [hi] at HI
  go_enter Try.func46, Try.ntmps46
  go_wp2_with (go_at_call 40; ((with_reducible refine (HI.out).mono ?_); rintro e w' ⟨rfl, rfl⟩))
  ((try simp only [Exit.inBlock, Exit.then]); refine bodyPost_ret (results_tmp2 rfl _ _ _) rfl ?_)
  exact ⟨rfl, rfl⟩
set_option maxHeartbeats 400000 in
theorem find_none {w : World} {fs k : Nat} {lv mv : Value} {mb : Option Nat} {room used : Int} {m : List UInt8 → Option Nat} (hfs : w.heap[fs]? = some (Vp.fsC lv room used mv)) (hm : Vp.Mp w mv mb k m) (n : List UInt8) (hi : Vf.is n = true) (hn : m n = none) :
    Calls Try.prog 46 #[.pointer (some ⟨fs, 0, none⟩), .string ⟨n.toArray⟩] w fun e w' => e = .returned (.tuple #[.pointer none, .int .i64 5]) ∧ w = w' := by
  have HI := Lib.hid (isName_any n w)
  rw [hi] at HI
  obtain ⟨c0, c1, c2, c3, cf, fsl⟩ := Vp.fs_cells hfs
  have hl : n.length ≤ 1048576 := by unfold Vf.is at hi; simp at hi; omega
  have hlook := hm.look hl
  rw [hn] at hlook
  unfold Vp.ptr at hlook
  clear hfs hm hi hn cf c0 c1 c2
  go_enter Try.func46, Try.ntmps46
  go_wp2_with (go_at_call 40; ((with_reducible refine (HI.out).mono ?_); rintro e w' ⟨rfl, rfl⟩))
  ((try simp only [Exit.inBlock, Exit.then]); refine bodyPost_ret (results_tmp2 rfl _ _ _) rfl ?_)
  exact ⟨rfl, rfl⟩
set_option maxHeartbeats 400000 in
theorem find_some {w : World} {fs k id : Nat} {lv mv : Value} {mb : Option Nat} {room used : Int} {m : List UInt8 → Option Nat} (hfs : w.heap[fs]? = some (Vp.fsC lv room used mv)) (hm : Vp.Mp w mv mb k m) (n : List UInt8) (hi : Vf.is n = true) (hn : m n = some id) :
    Calls Try.prog 46 #[.pointer (some ⟨fs, 0, none⟩), .string ⟨n.toArray⟩] w fun e w' => e = .returned (.tuple #[.pointer (some ⟨id, 0, none⟩), .int .i64 0]) ∧ w = w' := by
  have HI := Lib.hid (isName_any n w)
  rw [hi] at HI
  obtain ⟨c0, c1, c2, c3, cf, fsl⟩ := Vp.fs_cells hfs
  have hl : n.length ≤ 1048576 := by unfold Vf.is at hi; simp at hi; omega
  have hlook := hm.look hl
  rw [hn] at hlook
  unfold Vp.ptr at hlook
  clear hfs hm hi hn cf c0 c1 c2
  go_enter Try.func46, Try.ntmps46
  go_wp2_with (go_at_call 40; ((with_reducible refine (HI.out).mono ?_); rintro e w' ⟨rfl, rfl⟩))
  ((try simp only [Exit.inBlock, Exit.then]); refine bodyPost_ret (results_tmp2 rfl _ _ _) rfl ?_)
  exact ⟨rfl, rfl⟩
end Go.Proofs.Ytiacpopgnmledaa
