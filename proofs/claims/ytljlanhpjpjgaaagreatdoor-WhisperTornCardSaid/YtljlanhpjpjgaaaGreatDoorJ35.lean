/- WqRg WpRi -/
import Derived.Test.YtljlanhpjpjgaaaGreatDoorJ1
import Derived.Test.YtljlanhpjpjgaaaGreatDoorJ29
import Derived.Test.YtljlanhpjpjgaaaGreatDoorJ26
import Derived.Test.YtljlanhpjpjgaaaGreatDoorJ10
import Derived.Test.YtljlanhpjpjgaaaGreatDoorJ24
import Derived.Test.YtljlanhpjpjgaaaGreatDoorJ23
namespace Go.Proofs.YtljlanhpjpjgaaaGreatDoor
set_option maxRecDepth 100000
set_option maxHeartbeats 8000000
section
open Go.RowKit Go.Sort
open Fx (Vl)
open Me
open Wp
namespace Wp
def ringV (h : Hd) (i : Nat) (A : Option Addr) (cap fs : Nat) (n : List UInt8) : Value := .agg #[.int .i64 (h.step i), .int .i64 (h.cnt i), .int .i64 h.ag, .int .i64 h.xf, .slice A h.l.length cap, .pointer (some ⟨fs, 0, none⟩), .string ⟨n.toArray⟩, .int .i64 (h.offs (i : Int))]
end Wp
theorem row_set8 {W : World} {g : Nat} {t : TypeId} {a0 a1 a2 a3 a4 a5 a6 a7 b0 b1 b2 b3 b4 b5 b6 b7 : Value} (h : RowAt W g t #[a0, a1, a2, a3, a4, a5, a6, a7]) :
 RowAt ((((((((W.setCell ⟨g, 0, none⟩ b0).setCell ⟨g, 1, none⟩ b1).setCell ⟨g, 2, none⟩ b2).setCell ⟨g, 3, none⟩ b3).setCell ⟨g, 4, none⟩ b4).setCell ⟨g, 5, none⟩ b5).setCell ⟨g, 6, none⟩ b6).setCell ⟨g, 7, none⟩ b7) g t #[b0, b1, b2, b3, b4, b5, b6, b7] := by
 have := (((((((h.set_ 0 b0).set_ 1 b1).set_ 2 b2).set_ 3 b3).set_ 4 b4).set_ 5 b5).set_ 6 b6).set_ 7 b7
 simpa using this
theorem below_set8 {B g : Nat} {w W : World} {b0 b1 b2 b3 b4 b5 b6 b7 : Value} (h : Below B w W) (hg : B ≤ g) : Below B w ((((((((W.setCell ⟨g, 0, none⟩ b0).setCell ⟨g, 1, none⟩ b1).setCell ⟨g, 2, none⟩ b2).setCell ⟨g, 3, none⟩ b3).setCell ⟨g, 4, none⟩ b4).setCell ⟨g, 5, none⟩ b5).setCell ⟨g, 6, none⟩ b6).setCell ⟨g, 7, none⟩ b7) :=
 Below.setCell (Below.setCell (Below.setCell (Below.setCell (Below.setCell (Below.setCell (Below.setCell (Below.setCell h hg _) hg _) hg _) hg _) hg _) hg _) hg _) hg _
theorem ring_any {w : World} {fs : Nat} {n : List UInt8} {h : Hd} {A : Option Addr} {cap : Nat} (hr : Row w A h.l cap) (_hv : h.val = true) (ix : Nat) (hi : ix < h.l.length) :
 Calls Tryz.prog 42 #[fileV h A cap fs n, .int .i64 (ix : Int)] w fun e w' => e = .returned (ringV h ix A cap fs n) ∧ Below w.heap.size w w' := by
 have HOF : Hid (∀ W, Below w.heap.size w W → Calls Tryz.prog 83 #[.agg #[.int .i64 h.ag, .int .i64 h.xf, .slice A h.l.length cap], .int .i64 (ix : Int)] W fun e w' => e = .returned (.int .i64 (h.offs (ix : Int))) ∧ Below W.heap.size W w') := Lib.hid fun W hb => offs_any h.ag h.xf h.l A cap ix W (hr.below hb)
 obtain ⟨b, off, rfl, ha⟩ := hr.2 (by omega)
 have s0 : w.cell? ⟨b, off + ix * 2, none⟩ = some (.int .i64 (h.step ix)) := ha.st ix hi
 have s1 : w.cell? ⟨b, off + ix * 2 + 1, none⟩ = some (.int .i64 (h.cnt ix)) := ha.ct ix hi
 have hbl := ha.lt
 have hil : (ix : Int) < (h.l.length : Int) := by omega
 have hi0 : (0 : Int) ≤ (ix : Int) := by omega
 clear hr ha _hv
 unfold fileV ringV
 generalize h.offs (ix : Int) = o at *
 generalize h.step ix = s at *
 generalize h.cnt ix = k at *
 generalize h.l.length = L at *
 generalize h.ag = ag at *
 generalize h.xf = xf at *
 generalize (⟨n.toArray⟩ : ByteArray) = nb at *
 clear hi
 go_enter Tryz.func42, Tryz.ntmps42
 go_wp2_with fail
 have HX : Hid (Below w.heap.size w ((w.alloc (.cells #[.int .i64 ag, .int .i64 xf, .slice (some ⟨b, off, none⟩) L cap, .pointer (some ⟨fs, 0, none⟩), .string nb] 84)).alloc (.cells #[.int .i64 0, .int .i64 0, .int .i64 0, .int .i64 0, .slice none 0 0, .pointer none, .string ⟨#[]⟩, .int .i64 0] 100))) := Lib.hid (((Below.refl _ _).alloc (Nat.le_refl _) _).alloc (by simp) _)
 generalize hXe : (w.alloc (.cells #[.int .i64 ag, .int .i64 xf, .slice (some ⟨b, off, none⟩) L cap, .pointer (some ⟨fs, 0, none⟩), .string nb] 84)).alloc (.cells #[.int .i64 0, .int .i64 0, .int .i64 0, .int .i64 0, .slice none 0 0, .pointer none, .string ⟨#[]⟩, .int .i64 0] 100) = X at *
 have hXs : X.heap.size = w.heap.size + 2 := by rw [← hXe]; simp
 have hr1 : RowAt X w.heap.size 84 #[.int .i64 ag, .int .i64 xf, .slice (some ⟨b, off, none⟩) L cap, .pointer (some ⟨fs, 0, none⟩), .string nb] := by rw [← hXe]; exact (RowAt.new w _ _).alloc _
 have hr2 : RowAt X (w.heap.size + 1) 100 #[.int .i64 0, .int .i64 0, .int .i64 0, .int .i64 0, .slice none 0 0, .pointer none, .string ⟨#[]⟩, .int .i64 0] := by rw [← hXe]; exact RowAt.new' (by simp)
 obtain ⟨p, hp⟩ : ∃ p, p = w.heap.size := ⟨_, rfl⟩
 obtain ⟨q, hq⟩ : ∃ q, q = w.heap.size + 1 := ⟨_, rfl⟩
 have HP : Hid (w.heap.size ≤ q ∧ q < X.heap.size) := Lib.hid ⟨by omega, by omega⟩
 rw [← hq] at hr2 ⊢
 rw [← hp] at hr1
 rw [show Value.pointer (some (⟨w.heap.size, 0, none⟩ : Addr)) = .pointer (some ⟨p, 0, none⟩) by rw [hp]]
 have HF : Hid (∀ W, Below X.heap.size X W → (W.cell? ⟨p, 0, none⟩ = some (.int .i64 ag) ∧ W.cell? ⟨p, 1, none⟩ = some (.int .i64 xf) ∧ W.cell? ⟨p, 2, none⟩ = some (.slice (some ⟨b, off, none⟩) L cap) ∧ W.cell? ⟨p, 3, none⟩ = some (.pointer (some ⟨fs, 0, none⟩)) ∧ W.cell? ⟨p, 4, none⟩ = some (.string nb)) ∧ W.cell? ⟨b, off + ix * 2, none⟩ = some (.int .i64 s) ∧ W.cell? ⟨b, off + ix * 2 + 1, none⟩ = some (.int .i64 k)) := Lib.hid fun W hb => by
  have k1 := hr1.below hb (by omega)
  have hw := HX.out.trans (hb.mono HX.out.size)
  exact ⟨⟨k1.cell 0, k1.cell 1, k1.cell 2, k1.cell 3, k1.cell 4⟩, (hw.cell (p := ⟨b, off + ix * 2, none⟩) hbl).trans s0, (hw.cell (p := ⟨b, off + ix * 2 + 1, none⟩) hbl).trans s1⟩
 have HRR : Hid (RowAt X q 100 #[.int .i64 0, .int .i64 0, .int .i64 0, .int .i64 0, .slice none 0 0, .pointer none, .string ⟨#[]⟩, .int .i64 0]) := Lib.hid hr2
 clear s0 s1 hXe hr1 hr2 hXs hp hq hbl
 refine Inv.region_tail 12 8 (fun W W' => Below W.heap.size W W') (fun i v W => match i with
  | 0 => v = .pointer (some ⟨p, 0, none⟩)
  | 1 => v = .pointer (some ⟨p, 2, none⟩)
  | 2 => v = .slice (some ⟨b, off, none⟩) L cap
  | 3 => v = .int .i64 (ix : Int)
  | 4 => v = .pointer (some ⟨b, off + ix * 2, none⟩)
  | 5 => v = .agg #[.int .i64 s, .int .i64 k]
  | 6 => v = .agg #[.int .i64 ag, .int .i64 xf, .slice (some ⟨b, off, none⟩) L cap, .pointer (some ⟨fs, 0, none⟩), .string nb]
  | 7 => v = .pointer (some ⟨p, 0, none⟩)
  | 8 => v = .agg #[.int .i64 ag, .int .i64 xf, .slice (some ⟨b, off, none⟩) L cap]
  | 9 => v = .int .i64 (ix : Int)
  | 10 => v = .int .i64 o
  | 11 => v = .agg #[.int .i64 s, .int .i64 k, .int .i64 ag, .int .i64 xf, .slice (some ⟨b, off, none⟩) L cap, .pointer (some ⟨fs, 0, none⟩), .string nb, .int .i64 o]
  | _ => True) (by kernel_rfl) (by kernel_rfl) (by kernel_rfl) (by kernel_rfl) (fun W => Below.refl _ _) (fun a b c h k => h.trans (k.mono h.size)) (fun i v W W' h he => ?stab) ?obls ?fin
 case stab =>
  match i, h with
  | 0, h => exact h
  | 1, h => exact h
  | 2, h => exact h
  | 3, h => exact h
  | 4, h => exact h
  | 5, h => exact h
  | 6, h => exact h
  | 7, h => exact h
  | 8, h => exact h
  | 9, h => exact h
  | 10, h => exact h
  | 11, h => exact h
  | _ + 12, h => exact h
 case obls =>
  refine .cons ?_ (.cons ?_ (.cons ?_ (.cons ?_ (.cons ?_ (.cons ?_ (.cons ?_ (.cons ?_ (.cons ?_ (.cons ?_ (.cons ?_ (.cons ?_ .nil)))))))))))
  ·intro ac wx hE hf hd
   have hB : Below X.heap.size X wx := ⟨hE.1,hE.2,hE.3,hE.4,hE.5⟩
   rw [if_pos (Inv.want0 rfl _)]
   have h2 : ac.eval (.tmp 2) = .pointer (some ⟨p, 0, none⟩) := hf 2 (by kernel_rfl)
   clear hf hd
   refine Inv.val (.pointer (some ⟨p, 0, none⟩)) ?_ rfl rfl (Below.refl _ _)
   clear hE hB HF HOF HX
   generalize ac.eval = ev at *
   simp [execOp, go_sem, *]
  ·intro ac wx hE hf hd
   have hB : Below X.heap.size X wx := ⟨hE.1,hE.2,hE.3,hE.4,hE.5⟩
   rw [if_pos (Inv.want0 rfl _)]
   have h5 := hd 0 _ (by kernel_rfl) rfl
   change ac.eval (.tmp 5) = .pointer (some ⟨p, 0, none⟩) at h5
   clear hf hd
   refine Inv.val (.pointer (some ⟨p, 2, none⟩)) ?_ rfl rfl (Below.refl _ _)
   clear hE hB HF HOF HX
   generalize ac.eval = ev at *
   simp [execOp, go_sem, *]
  ·intro ac wx hE hf hd
   have hB : Below X.heap.size X wx := ⟨hE.1,hE.2,hE.3,hE.4,hE.5⟩
   rw [if_pos (Inv.want0 rfl _)]
   have h6 := hd 1 _ (by kernel_rfl) rfl
   change ac.eval (.tmp 6) = .pointer (some ⟨p, 2, none⟩) at h6
   clear hf hd
   obtain ⟨⟨a0, a1, a2, a3, a4⟩, b0, b1⟩ := HF.out wx hB
   refine Inv.val (.slice (some ⟨b, off, none⟩) L cap) ?_ rfl rfl (Below.refl _ _)
   clear hE hB HF HOF HX
   generalize ac.eval = ev at *
   simp [execOp, go_sem, *]
  ·intro ac wx hE hf hd
   have hB : Below X.heap.size X wx := ⟨hE.1,hE.2,hE.3,hE.4,hE.5⟩
   rw [if_pos (Inv.want0 rfl _)]
   have h1 : ac.eval (.tmp 1) = .int .i64 (ix : Int) := hf 1 (by kernel_rfl)
   clear hf hd
   refine Inv.val (.int .i64 (ix : Int)) ?_ rfl rfl (Below.refl _ _)
   clear hE hB
   generalize ac.eval = ev at *
   simp [execOp, go_sem, *]
  ·intro ac wx hE hf hd
   have hB : Below X.heap.size X wx := ⟨hE.1,hE.2,hE.3,hE.4,hE.5⟩
   rw [if_pos (Inv.want0 rfl _)]
   have h7 := hd 2 _ (by kernel_rfl) rfl
   change ac.eval (.tmp 7) = .slice (some ⟨b, off, none⟩) L cap at h7
   have h8 := hd 3 _ (by kernel_rfl) rfl
   change ac.eval (.tmp 8) = .int .i64 (ix : Int) at h8
   clear hf hd
   refine Inv.val (.pointer (some ⟨b, off + ix * 2, none⟩)) ?_ rfl rfl (Below.refl _ _)
   clear hE hB HF HOF HX
   generalize ac.eval = ev at *
   simp [execOp, go_sem, *]
  ·intro ac wx hE hf hd
   have hB : Below X.heap.size X wx := ⟨hE.1,hE.2,hE.3,hE.4,hE.5⟩
   rw [if_pos (Inv.want0 rfl _)]
   have h9 := hd 4 _ (by kernel_rfl) rfl
   change ac.eval (.tmp 9) = .pointer (some ⟨b, off + ix * 2, none⟩) at h9
   clear hf hd
   obtain ⟨⟨a0, a1, a2, a3, a4⟩, b0, b1⟩ := HF.out wx hB
   refine Inv.val (.agg #[.int .i64 s, .int .i64 k]) ?_ rfl rfl (Below.refl _ _)
   clear hE hB HF HOF HX
   generalize ac.eval = ev at *
   simp [execOp, go_sem, *]
  ·intro ac wx hE hf hd
   have hB : Below X.heap.size X wx := ⟨hE.1,hE.2,hE.3,hE.4,hE.5⟩
   rw [if_pos (Inv.want0 rfl _)]
   have h2 : ac.eval (.tmp 2) = .pointer (some ⟨p, 0, none⟩) := hf 2 (by kernel_rfl)
   clear hf hd
   obtain ⟨⟨a0, a1, a2, a3, a4⟩, b0, b1⟩ := HF.out wx hB
   refine Inv.val (.agg #[.int .i64 ag, .int .i64 xf, .slice (some ⟨b, off, none⟩) L cap, .pointer (some ⟨fs, 0, none⟩), .string nb]) ?_ rfl rfl (Below.refl _ _)
   clear hE hB HF HOF HX
   generalize ac.eval = ev at *
   simp [execOp, go_sem, *]
  ·intro ac wx hE hf hd
   have hB : Below X.heap.size X wx := ⟨hE.1,hE.2,hE.3,hE.4,hE.5⟩
   rw [if_pos (Inv.want0 rfl _)]
   have h2 : ac.eval (.tmp 2) = .pointer (some ⟨p, 0, none⟩) := hf 2 (by kernel_rfl)
   clear hf hd
   refine Inv.val (.pointer (some ⟨p, 0, none⟩)) ?_ rfl rfl (Below.refl _ _)
   clear hE hB HF HOF HX
   generalize ac.eval = ev at *
   simp [execOp, go_sem, *]
  ·intro ac wx hE hf hd
   have hB : Below X.heap.size X wx := ⟨hE.1,hE.2,hE.3,hE.4,hE.5⟩
   rw [if_pos (Inv.want0 rfl _)]
   have h12 := hd 7 _ (by kernel_rfl) rfl
   change ac.eval (.tmp 12) = .pointer (some ⟨p, 0, none⟩) at h12
   clear hf hd
   obtain ⟨⟨a0, a1, a2, a3, a4⟩, b0, b1⟩ := HF.out wx hB
   refine Inv.val (.agg #[.int .i64 ag, .int .i64 xf, .slice (some ⟨b, off, none⟩) L cap]) ?_ rfl rfl (Below.refl _ _)
   clear hE hB HF HOF HX
   generalize ac.eval = ev at *
   simp [execOp, go_sem, *]
  ·intro ac wx hE hf hd
   have hB : Below X.heap.size X wx := ⟨hE.1,hE.2,hE.3,hE.4,hE.5⟩
   rw [if_pos (Inv.want0 rfl _)]
   have h1 : ac.eval (.tmp 1) = .int .i64 (ix : Int) := hf 1 (by kernel_rfl)
   clear hf hd
   refine Inv.val (.int .i64 (ix : Int)) ?_ rfl rfl (Below.refl _ _)
   clear hE hB
   generalize ac.eval = ev at *
   simp [execOp, go_sem, *]
  ·intro ac wx hE hf hd
   have hB : Below X.heap.size X wx := ⟨hE.1,hE.2,hE.3,hE.4,hE.5⟩
   rw [if_pos (Inv.want0 rfl _)]
   have h13 := hd 8 _ (by kernel_rfl) rfl
   change ac.eval (.tmp 13) = .agg #[.int .i64 ag, .int .i64 xf, .slice (some ⟨b, off, none⟩) L cap] at h13
   have h14 := hd 9 _ (by kernel_rfl) rfl
   change ac.eval (.tmp 14) = .int .i64 (ix : Int) at h14
   clear hf hd
   refine Inv.go (f := 83) (xs := #[.agg #[.int .i64 ag, .int .i64 xf, .slice (some ⟨b, off, none⟩) L cap], .int .i64 (ix : Int)]) ?_ rfl ?_
   ·clear hE hB HF HX HOF
    have hfn : ac.eval (.func 83) = .func (.func 83) #[] #[] := rfl
    generalize ac.eval = ev at *
    simp [execOp, go_sem, *]
   ·exact (HOF.out wx (HX.out.trans (hB.mono HX.out.size))).mono fun e w' ⟨he, hb⟩ => ⟨_, he, rfl, hb⟩
  ·intro ac wx hE hf hd
   have hB : Below X.heap.size X wx := ⟨hE.1,hE.2,hE.3,hE.4,hE.5⟩
   rw [if_pos (Inv.want0 rfl _)]
   have h10 := hd 5 _ (by kernel_rfl) rfl
   change ac.eval (.tmp 10) = .agg #[.int .i64 s, .int .i64 k] at h10
   have h11 := hd 6 _ (by kernel_rfl) rfl
   change ac.eval (.tmp 11) = .agg #[.int .i64 ag, .int .i64 xf, .slice (some ⟨b, off, none⟩) L cap, .pointer (some ⟨fs, 0, none⟩), .string nb] at h11
   have h15 := hd 10 _ (by kernel_rfl) rfl
   change (fun v W => v = .int .i64 o) (ac.eval (.tmp 15)) wx at h15
   try dsimp only at h15
   clear hf hd
   refine Inv.val (.agg #[.int .i64 s, .int .i64 k, .int .i64 ag, .int .i64 xf, .slice (some ⟨b, off, none⟩) L cap, .pointer (some ⟨fs, 0, none⟩), .string nb, .int .i64 o]) ?_ rfl rfl (Below.refl _ _)
   clear hE hB HF HOF HX
   generalize ac.eval = ev at *
   simp [execOp, go_sem, *]
 case fin =>
  intro ac wx hE ha hall
  have hB : Below X.heap.size X wx := ⟨hE.1,hE.2,hE.3,hE.4,hE.5⟩
  have h5 := hall 0 _ (by decide) rfl
  change ac.eval (.tmp 5) = .pointer (some ⟨p, 0, none⟩) at h5
  have h6 := hall 1 _ (by decide) rfl
  change ac.eval (.tmp 6) = .pointer (some ⟨p, 2, none⟩) at h6
  have h7 := hall 2 _ (by decide) rfl
  change ac.eval (.tmp 7) = .slice (some ⟨b, off, none⟩) L cap at h7
  have h8 := hall 3 _ (by decide) rfl
  change ac.eval (.tmp 8) = .int .i64 (ix : Int) at h8
  have h9 := hall 4 _ (by decide) rfl
  change ac.eval (.tmp 9) = .pointer (some ⟨b, off + ix * 2, none⟩) at h9
  have h10 := hall 5 _ (by decide) rfl
  change ac.eval (.tmp 10) = .agg #[.int .i64 s, .int .i64 k] at h10
  have h11 := hall 6 _ (by decide) rfl
  change ac.eval (.tmp 11) = .agg #[.int .i64 ag, .int .i64 xf, .slice (some ⟨b, off, none⟩) L cap, .pointer (some ⟨fs, 0, none⟩), .string nb] at h11
  have h12 := hall 7 _ (by decide) rfl
  change ac.eval (.tmp 12) = .pointer (some ⟨p, 0, none⟩) at h12
  have h13 := hall 8 _ (by decide) rfl
  change ac.eval (.tmp 13) = .agg #[.int .i64 ag, .int .i64 xf, .slice (some ⟨b, off, none⟩) L cap] at h13
  have h14 := hall 9 _ (by decide) rfl
  change ac.eval (.tmp 14) = .int .i64 (ix : Int) at h14
  have h15 := hall 10 _ (by decide) rfl
  change (fun v W => v = .int .i64 o) (ac.eval (.tmp 15)) wx at h15
  try dsimp only at h15
  generalize hv15 : ac.eval (.tmp 15) = v15 at *
  have h16 := hall 11 _ (by decide) rfl
  change ac.eval (.tmp 16) = .agg #[.int .i64 s, .int .i64 k, .int .i64 ag, .int .i64 xf, .slice (some ⟨b, off, none⟩) L cap, .pointer (some ⟨fs, 0, none⟩), .string nb, .int .i64 o] at h16
  simp only [List.take_succ_cons, List.take_zero, List.foldl, Inv.slot, Act.put] at ha
  change ac.tmps.getD 5 undef = _ at h5
  change ac.tmps.getD 6 undef = _ at h6
  change ac.tmps.getD 7 undef = _ at h7
  change ac.tmps.getD 8 undef = _ at h8
  change ac.tmps.getD 9 undef = _ at h9
  change ac.tmps.getD 10 undef = _ at h10
  change ac.tmps.getD 11 undef = _ at h11
  change ac.tmps.getD 12 undef = _ at h12
  change ac.tmps.getD 13 undef = _ at h13
  change ac.tmps.getD 14 undef = _ at h14
  change ac.tmps.getD 15 undef = _ at hv15
  change ac.tmps.getD 16 undef = _ at h16
  simp only [h5, h6, h7, h8, h9, h10, h11, h12, h13, h14, hv15, h16, List.setIfInBounds_toArray, List.set_cons_zero, List.set_cons_succ] at ha
  clear h5 h6 h7 h8 h9 h10 h11 h12 h13 h14 hv15 h16 hall hE
  subst ha
  simp only [List.drop_succ_cons, List.drop_zero]
  have hrr := HRR.out.below hB HP.out.2
  have hl2 := hrr.lt
  have q0 := hrr.frozen 0
  have q1 := hrr.frozen 1
  have q2 := hrr.frozen 2
  have q3 := hrr.frozen 3
  have q4 := hrr.frozen 4
  have q5 := hrr.frozen 5
  have q6 := hrr.frozen 6
  have q7 := hrr.frozen 7
  have y0 := hrr.cell 0
  have y1 := hrr.cell 1
  have y2 := hrr.cell 2
  have y3 := hrr.cell 3
  have y4 := hrr.cell 4
  have y5 := hrr.cell 5
  have y6 := hrr.cell 6
  have y7 := hrr.cell 7
  simp only [List.getElem?_toArray, List.getElem?_cons_succ, List.getElem?_cons_zero] at y0 y1 y2 y3 y4 y5 y6 y7
  have HB2 := Lib.hid (HX.out.trans (hB.mono HX.out.size))
  have HQ2 := Lib.hid HP.out.1
  have HR0 := Lib.hid hrr
  clear hB hrr HRR HF HOF HX HP
  go_wp2_with fail
  clear q0 q1 q2 q3 q4 q5 q6 q7 y0 y1 y2 y3 y4 y5 y6 y7
  have HZ : Hid (RowAt ((((((((wx.setCell ⟨q, 0, none⟩ (.int .i64 s)).setCell ⟨q, 1, none⟩ (.int .i64 k)).setCell ⟨q, 2, none⟩ (.int .i64 ag)).setCell ⟨q, 3, none⟩ (.int .i64 xf)).setCell ⟨q, 4, none⟩ (.slice (some ⟨b, off, none⟩) L cap)).setCell ⟨q, 5, none⟩ (.pointer (some ⟨fs, 0, none⟩))).setCell ⟨q, 6, none⟩ (.string nb)).setCell ⟨q, 7, none⟩ (.int .i64 o)) q 100 #[.int .i64 s, .int .i64 k, .int .i64 ag, .int .i64 xf, .slice (some ⟨b, off, none⟩) L cap, .pointer (some ⟨fs, 0, none⟩), .string nb, .int .i64 o]) := Lib.hid (row_set8 HR0.out)
  have HBZ : Hid (Below w.heap.size w ((((((((wx.setCell ⟨q, 0, none⟩ (.int .i64 s)).setCell ⟨q, 1, none⟩ (.int .i64 k)).setCell ⟨q, 2, none⟩ (.int .i64 ag)).setCell ⟨q, 3, none⟩ (.int .i64 xf)).setCell ⟨q, 4, none⟩ (.slice (some ⟨b, off, none⟩) L cap)).setCell ⟨q, 5, none⟩ (.pointer (some ⟨fs, 0, none⟩))).setCell ⟨q, 6, none⟩ (.string nb)).setCell ⟨q, 7, none⟩ (.int .i64 o))) := Lib.hid (below_set8 HB2.out HQ2.out)
  generalize ((((((((wx.setCell ⟨q, 0, none⟩ (.int .i64 s)).setCell ⟨q, 1, none⟩ (.int .i64 k)).setCell ⟨q, 2, none⟩ (.int .i64 ag)).setCell ⟨q, 3, none⟩ (.int .i64 xf)).setCell ⟨q, 4, none⟩ (.slice (some ⟨b, off, none⟩) L cap)).setCell ⟨q, 5, none⟩ (.pointer (some ⟨fs, 0, none⟩))).setCell ⟨q, 6, none⟩ (.string nb)).setCell ⟨q, 7, none⟩ (.int .i64 o)) = Y at *
  have y0 := HZ.out.cell 0
  have y1 := HZ.out.cell 1
  have y2 := HZ.out.cell 2
  have y3 := HZ.out.cell 3
  have y4 := HZ.out.cell 4
  have y5 := HZ.out.cell 5
  have y6 := HZ.out.cell 6
  have y7 := HZ.out.cell 7
  simp only [List.getElem?_toArray, List.getElem?_cons_succ, List.getElem?_cons_zero] at y0 y1 y2 y3 y4 y5 y6 y7
  refine bodyPost_ret (v := .agg #[.int .i64 s, .int .i64 k, .int .i64 ag, .int .i64 xf, .slice (some ⟨b, off, none⟩) L cap, .pointer (some ⟨fs, 0, none⟩), .string nb, .int .i64 o]) (by simp [results, Tryz.results42, go_sem, y0, y1, y2, y3, y4, y5, y6, y7]) rfl ⟨rfl, HBZ.out⟩
end
section
open Go.RowKit Go.Sort
open Fx (Vl)
open Me
open Wp
theorem infoPt : (Tryz.prog.info? 27).map (fun i => (i.zero, i.size, i.bytes)) = some (some (.agg #[.int .i64 0, .int .i64 0]), 2, 16) := by kernel_rfl
def OwnP (t : TypeId) (base : Nat) (w : World) (v : Value) (l : List (Int × Int)) : Prop := w.ownsRow base t 2 v l.length (Wh.cellsA l)
section
variable {t : TypeId}
theorem OwnP.nil (a : Nat) (w : World) : OwnP t a w (.slice none 0 0) [] := ⟨rfl, .inl ⟨rfl, rfl⟩⟩
theorem OwnP.lt {base : Nat} {w : World} {v : Value} {l : List (Int × Int)} (h : OwnP t base w v l) : ∀ g, v.ownBlock = some g → base ≤ g ∧ g < w.heap.size := by
 intro g hg
 rcases h.2 with ⟨rfl, _⟩ | ⟨g', cap, cur, rfl, hb, hh, _⟩
 ·cases hg
 ·have : g' = g := by simpa [Value.ownBlock] using hg
  subst this
  exact ⟨hb, (Array.getElem?_eq_some_iff.1 hh).1⟩
theorem OwnP.below {a : Nat} {w w' : World} {v : Value} {l : List (Int × Int)} (h : OwnP t a w v l) (k : Below w.heap.size w w') : OwnP t a w' v l := owns_keep h fun g hg => k.block g (h.lt g hg).2
theorem OwnP.slice {a : Nat} {w : World} {v : Value} {l : List (Int × Int)} (h : OwnP t a w v l) : ∃ A c, v = .slice A l.length c := by
 rcases h.2 with ⟨rfl, h0⟩ | ⟨g', cap, cur, rfl, _⟩
 ·exact ⟨none, 0, by rw [h0]⟩
 ·exact ⟨_, _, rfl⟩
theorem OwnP.more {base : Nat} {w : World} {v : Value} {l : List (Int × Int)} {a b : Int} (h : w.ownsRow base t 2 v (l.length + 1) (Wh.cellsA l ++ [.int .i64 a, .int .i64 b])) : OwnP t base w v (l ++ [(a, b)]) := by
 unfold OwnP
 rw [List.length_append]
 unfold Wh.cellsA at h ⊢
 rw [List.flatMap_append]
 exact h
end
namespace Wp
def pts (fs : List Vf.Fl) (n : List UInt8) (h : Hd) (i : Nat) (k : Nat) : List (Int × Int) := (List.range k).map fun (j : Nat) => pt (Vf.read fs n (h.offs (i : Int) + 12 * (j : Int)) 12).1
theorem pts_succ (fs : List Vf.Fl) (n : List UInt8) (h : Hd) (i : Nat) (k : Nat) : pts fs n h i (k + 1) = pts fs n h i k ++ [pt (Vf.read fs n (h.offs (i : Int) + 12 * (k : Int)) 12).1] := by unfold pts; rw [List.range_succ, List.map_append]; rfl
theorem pts_len (fs : List Vf.Fl) (n : List UInt8) (h : Hd) (i : Nat) (k : Nat) : (pts fs n h i k).length = k := by unfold pts; simp
theorem ring_err {fs : List Vf.Fl} {n : List UInt8} {i : Int} (h : (info fs n).2 ≠ 0) : ring fs n i = ([], (info fs n).2) := by unfold ring; dsimp only; rw [if_pos h]
theorem ring_no {fs : List Vf.Fl} {n : List UInt8} {i : Int} (h : (info fs n).2 = 0) (hi : i < 0 ∨ ((info fs n).1.l.length : Int) ≤ i) : ring fs n i = ([], 1) := by unfold ring; dsimp only; rw [if_neg (by rw [h]; simp), if_pos hi]
theorem ring_yes {fs : List Vf.Fl} {n : List UInt8} {i : Nat} (h : (info fs n).2 = 0) (hi : i < (info fs n).1.l.length) : ring fs n (i : Int) = (pts fs n (info fs n).1 i ((info fs n).1.cnt i).toNat, 0) := by
 unfold ring; dsimp only; rw [if_neg (by rw [h]; simp), if_neg (by omega)]; rfl
end Wp
def Wp.Ringed (w : World) (R : List (Int × Int) × Int) (e : Ending) (w' : World) : Prop := ∃ v, e = .returned (.tuple #[v, .int .i64 R.2]) ∧ OwnP 27 w.heap.size w' v R.1 ∧ Below w.heap.size w w'
theorem ownp_append {t : TypeId} {X W w2 : World} {v v2 : Value} {m : List (Int × Int)} {a b : Int} (hb : Below X.heap.size X W) (ho : OwnP t X.heap.size W v m)
 (hown : w2.ownsRow X.heap.size t 2 v2 (m.length + 1) (Wh.cellsA m ++ [.int .i64 a, .int .i64 b])) (hg : W.grownBy w2 v.ownBlock) : OwnP t X.heap.size w2 v2 (m ++ [(a, b)]) ∧ Below X.heap.size X w2 :=
 ⟨OwnP.more hown, hb.grown hg hb.size fun g e => (ho.lt g e).1⟩
theorem below_two {a w : World} {o o' : Obj} (h : Below a.heap.size a w) (hs : a.heap.size ≤ w.heap.size) : Below a.heap.size a ((w.alloc o).alloc o') := (h.alloc hs _).alloc (by simp; omega) _
theorem rring_any {w : World} {V : Nat → Prop} {c fs : Nat} {S : Vf.Sv} (ro : RO w V fs c S) (hc : c ≤ 1000000) (n : List UInt8) (a : Int) :
 Calls Tryz.prog 27 #[.pointer (some ⟨fs, 0, none⟩), .string ⟨n.toArray⟩, .int .i64 a] w (Ringed w (ring S.now n a)) := by
 have HIN : Hid (∀ W, Below w.heap.size w W → Calls Tryz.prog 25 #[.pointer (some ⟨fs, 0, none⟩), .string ⟨n.toArray⟩] W (Informed W (info S.now n))) := Lib.hid fun W hb => rinfo_any (ro.below hb) (by omega) n
 have HRO := Lib.hid ro
 have HE1 := Lib.hid (ring_err (fs := S.now) (n := n) (i := a))
 have HE2 := Lib.hid (ring_no (fs := S.now) (n := n) (i := a))
 have HE3 := Lib.hid (fun i => ring_yes (fs := S.now) (n := n) (i := i))
 have HVL := Lib.hid (info_val (fs := S.now) (n := n))
 clear ro
 generalize info S.now n = R at *
 obtain ⟨⟨ag, xf, hl⟩, er⟩ := R
 by_cases he : er = 0
 ·subst he
  have hv := HVL.out rfl
  have hlen := Hd.len hv
  by_cases ht : a < 0 ∨ (hl.length : Int) ≤ a
  ·have HQ := Lib.hid (HE2.out rfl ht)
   clear HE1 HE2 HE3 HVL
   by_cases ht1 : a < 0
   ·clear ht
    go_enter Tryz.func27, Tryz.ntmps27
    go_wp2_with (go_at_call 25; (with_reducible refine (HIN.out _ (Below.refl _ _)).mono ?_); rintro e w1 ⟨A1, c1, rfl, hrow, hfr, hb1⟩; have HB1 := Lib.hid hb1; clear hb1 hrow hfr)
    ((try simp only [Exit.inBlock, Exit.then]); refine bodyPost_ret (results_tmp2 rfl _ _ _) rfl ?_)
    exact ⟨.slice none 0 0, by rw [HQ.out]; rfl, by rw [HQ.out]; exact OwnP.nil _ _, HB1.out.alloc HB1.out.size _⟩
   ·have ht2 : (hl.length : Int) ≤ a := by omega
    clear ht
    go_enter Tryz.func27, Tryz.ntmps27
    go_wp2_with (go_at_call 25; (with_reducible refine (HIN.out _ (Below.refl _ _)).mono ?_); rintro e w1 ⟨A1, c1, rfl, hrow, hfr, hb1⟩; have HB1 := Lib.hid hb1; clear hb1 hrow hfr)
    ((try simp only [Exit.inBlock, Exit.then]); refine bodyPost_ret (results_tmp2 rfl _ _ _) rfl ?_)
    exact ⟨.slice none 0 0, by rw [HQ.out]; rfl, by rw [HQ.out]; exact OwnP.nil _ _, HB1.out.alloc HB1.out.size _⟩
  ·obtain ⟨i, rfl⟩ : ∃ i : Nat, a = (i : Int) := ⟨a.toNat, by omega⟩
   have hi : i < hl.length := by omega
   have HQ := Lib.hid (HE3.out i rfl hi)
   clear HE1 HE2 HE3 HVL ht
   obtain ⟨j0, hj0, hy0, hy1, hy2⟩ := info_parts infoPt
   have HJ := Lib.hid hj0
   have HY := Lib.hid (And.intro hy0 (And.intro hy1 hy2))
   clear hj0 hy0 hy1 hy2
   have hil : (i : Int) < (hl.length : Int) := by omega
   have hi0 : (0 : Int) ≤ (i : Int) := by omega
   go_enter Tryz.func27, Tryz.ntmps27
   go_wp2_with (go_at_call 25; (with_reducible refine (HIN.out _ (Below.refl _ _)).mono ?_); rintro e w1 ⟨A1, c1, rfl, hrow, hfr, hb1⟩; have HB1 := Lib.hid hb1; have HROW := Lib.hid hrow; have hs1 := hb1.size; clear hb1 hrow hfr)
   have hX : Below w.heap.size w (w1.alloc (.cells #[.int .i64 ag, .int .i64 xf, .slice A1 hl.length c1] 24)) := HB1.out.alloc hs1 _
   have hrh : RowAt (w1.alloc (.cells #[.int .i64 ag, .int .i64 xf, .slice A1 hl.length c1] 24)) w1.heap.size 24 #[.int .i64 ag, .int .i64 xf, .slice A1 hl.length c1] := RowAt.new _ _ _
   have hra : Row (w1.alloc (.cells #[.int .i64 ag, .int .i64 xf, .slice A1 hl.length c1] 24)) A1 hl c1 := HROW.out.below ((Below.refl _ _).alloc (Nat.le_refl _) _)
   generalize w1.alloc (.cells #[.int .i64 ag, .int .i64 xf, .slice A1 hl.length c1] 24) = X at *
   generalize w1.heap.size = hb at *
   obtain ⟨b, off, rfl, har⟩ := hra.2 (by omega)
   have HX := Lib.hid hX
   have HRH := Lib.hid hrh
   have HRA := Lib.hid hra
   have HAR := Lib.hid har
   have hxs := hX.size
   obtain ⟨H, hH⟩ : ∃ H, Hid (H = (⟨ag, xf, hl⟩ : Hd)) := ⟨_, Lib.hid rfl⟩
   rw [← hH.out] at HQ hv
   have hil2 : i < H.l.length := by rw [hH.out]; exact hi
   have hcb := cnt_bd hv i hil2
   obtain ⟨⟨n1, n2⟩, n3, n4⟩ := Hd.nums hv i hil2
   obtain ⟨K, hK⟩ : ∃ K : Nat, Hid (H.cnt i = (K : Int)) := ⟨(H.cnt i).toNat, Lib.hid (by omega)⟩
   have hKb : K ≤ 87381 := by have := hK.out; omega
   have HQ2 : Hid (ring S.now n (i : Int) = (pts S.now n H i K, 0)) := Lib.hid (by rw [HQ.out, hK.out, Int.toNat_natCast])
   have HCT : Hid (∀ W, Below X.heap.size X W → W.cell? ⟨b, off + i * 2 + 1, none⟩ = some (.int .i64 (K : Int)) ∧ b < W.heap.size) := Lib.hid fun W hb => by
    have e := (har.below hb).ct i hi
    rw [show (Wh.At hl i).2 = H.cnt i by rw [hH.out]; rfl, hK.out] at e
    exact ⟨e, (har.below hb).lt⟩
   have HOF : Hid (∀ W, Below X.heap.size X W → Calls Tryz.prog 37 #[.agg #[.int .i64 ag, .int .i64 xf, .slice (some ⟨b, off, none⟩) hl.length c1], .int .i64 (i : Int)] W fun e w' => e = .returned (.int .i64 (H.offs (i : Int))) ∧ Below W.heap.size W w') := Lib.hid fun W hb => by
    have h := roffs_any ag xf hl (some ⟨b, off, none⟩) c1 (i : Int) W (hra.below hb)
    rw [show Wh.offs ag xf hl (i : Int) = H.offs (i : Int) by rw [hH.out]; rfl] at h
    exact h
   have hob := Hd.offs_bd hv (i : Int)
   obtain ⟨o, ho⟩ : ∃ o, Hid (o = H.offs (i : Int)) := ⟨_, Lib.hid rfl⟩
   rw [← ho.out] at HOF hob
   have HRX := Lib.hid (HRO.out.below hX)
   clear hX hrh hra har HQ hv hil2 hcb n1 n2 n3 n4 HROW HB1 hs1
   generalize decide ((i : Int) < 0) = bb1 at *
   generalize decide (hl.length ≤ i) = bb2 at *
   go_loopw [10, 11] (fun v u wr => ∃ k : Nat, k ≤ K ∧ u = .int .i64 k ∧ OwnP 27 X.heap.size wr v (pts S.now n H i k) ∧ Below X.heap.size X wr) (fun _ u _ => K - (intOf u).toNat)
   case atStart => exact ⟨0, Nat.zero_le _, rfl, OwnP.nil _ _, Below.refl _ _⟩
   case round =>
    obtain ⟨k, hk, rfl, hown, hbel⟩ := hrel
    have hpl := pts_len S.now n H i k
    have HPS := Lib.hid (pts_succ S.now n H i k)
    generalize hml : pts S.now n H i k = m at *
    have HML := Lib.hid hml
    clear hml
    obtain ⟨A3, c3, rfl⟩ := hown.slice
    have HO := Lib.hid hown
    have HB := Lib.hid hbel
    have hws := hbel.size
    obtain ⟨y1, hbr⟩ := HCT.out wr hbel
    have hrw := HRH.out.below hbel HRH.out.lt
    have y2 : wr.cell? ⟨hb, 2, none⟩ = some (.slice (some ⟨b, off, none⟩) hl.length c1) := hrw.cell 2
    have y0 : wr.cell? ⟨hb, 0, none⟩ = some (.int .i64 ag) := hrw.cell 0
    have y3 : wr.cell? ⟨hb, 1, none⟩ = some (.int .i64 xf) := hrw.cell 1
    have hhl := hrw.lt
    have HRW := Lib.hid (HRX.out.below hbel)
    clear hown hbel hrw
    rw [hpl] at HO
    by_cases hlt : k < K
    ·rw [← ho.out] at HPS
     obtain ⟨q, hq⟩ : ∃ q, 12 * (k : Int) = q := ⟨_, rfl⟩
     rw [hq] at HPS
     obtain ⟨r, hr⟩ : ∃ r, o + q = r := ⟨_, rfl⟩
     rw [hr] at HPS
     have hwq : IntKind.i64.wrap q = q := IntWalk.i64_in _ (by omega)
     have hwr : IntKind.i64.wrap r = r := IntWalk.i64_in _ (by omega)
     have hkK : (k : Int) < (K : Int) := by omega
     have HRD : Hid (∀ W, Below wr.heap.size wr W → Calls Tryz.prog 13 #[.pointer (some ⟨fs, 0, none⟩), .string ⟨n.toArray⟩, .int .i64 r, .int .i64 12] W (Vf.Handed W (Vf.read S.now n r 12))) := Lib.hid fun W hb => roread (HRW.out.below hb) hc n _ _
     generalize Vf.read S.now n r 12 = RR at *
     obtain ⟨L, er⟩ := RR
     have HPS' : Hid (pts S.now n H i (k + 1) = m ++ [(Sl.dat L, Sl.dnn L)]) := HPS
     clear HPS
     have HDC : Hid (∀ A c W, Reads W (.slice A L.length c) L → Calls Tryz.prog 38 #[.slice A L.length c] W fun e w' => e = .returned (.tuple #[.agg #[.int .i64 (Sl.dat L), .int .i64 (Sl.dnn L)], .bool (Sl.okd L)]) ∧ Below W.heap.size W w') := Lib.hid fun A c W h => rsdec_v L A c W h
     generalize Sl.dat L = da at *
     generalize Sl.dnn L = dn at *
     generalize Sl.okd L = ok at *
     have HOX : Hid (∀ W, Below wr.heap.size wr W → W.ownsRow X.heap.size 27 2 (.slice A3 k c3) k (Wh.cellsA m)) := Lib.hid fun W hb => by
      have h := HO.out.below hb
      unfold OwnP at h
      rw [hpl] at h
      exact h
     go_wp2_with first
      | (go_at_call 37; (with_reducible refine (HOF.out _ HB.out).mono ?_); rintro e w2 ⟨rfl, hb2⟩; have HB2 := Lib.hid hb2; have hs2 := hb2.size; clear hb2)
      | (go_at_call 13; (with_reducible refine (HRD.out _ HB2.out).mono ?_); rintro e w3 ⟨v3, rfl, hv3, hb3⟩; have HB3 : Hid (Below wr.heap.size wr w3) := Lib.hid (HB2.out.trans (hb3.mono hs2)); have HV3 : Hid (Reads w3 v3 L) := Lib.hid (by obtain ⟨A', c', e', h1', _, h3'⟩ := hv3; exact ⟨A', c', e', h1', h3'.mono fun _ _ _ => trivial⟩); obtain ⟨A4, c4, rfl, _, _⟩ := HV3.out; have hs3 := HB3.out.size; clear hb3 hv3)
      | (go_at_call 38; (with_reducible refine (HDC.out _ _ _ HV3.out).mono ?_); rintro e w4 ⟨rfl, hb4⟩; have HB4 : Hid (Below wr.heap.size wr w4) := Lib.hid (HB3.out.trans (hb4.mono hs3)); have hs4 := HB4.out.size; clear hb4)
      | (at_builtin; refine wpList_app _ rfl (.tmp 61) (.tmp 63) 25 rfl X.heap.size 27 j0 (.agg #[.int .i64 0, .int .i64 0]) 2 16 Tryz.underlying25 HJ.out HY.out.1 HY.out.2.1 HY.out.2.2 rfl (by decide) (.slice A3 k c3) k (Wh.cellsA m) rfl (HOX.out _ (below_two HB4.out hs4)) (fun b => b = w4.heap.size + 1) (some ⟨w4.heap.size + 1, 0, none⟩) 1 1 [.int .i64 da, .int .i64 dn] rfl rfl (Rd.fresh _ _ _ _ (by simp)) (by intro u hu; simp at hu; rcases hu with rfl | rfl <;> rfl) (by unfold maxLen; omega) (by omega) (by simp; omega) ?_; intro v5 w5 hown5 hg5 hat5 hnil5)
     have HN := Lib.hid (ownp_append (v := .slice A3 k c3) (m := m) (HB.out.trans ((below_two HB4.out hs4).mono hws)) (HO.out.below (below_two HB4.out hs4)) (by rw [hpl]; exact hown5) hg5)
     obtain ⟨A5, n5, c5, rfl⟩ := own_slice hown5
     clear hown5 hg5 hat5 hnil5
     go_roundw
     case rel => exact ⟨k + 1, by omega, by go_num, by rw [HPS'.out]; exact HN.out.1, HN.out.2⟩
     case measure => simp [intOf]; omega
    ·have hkK : k = K := by omega
     have hkI : ¬ (k : Int) < (K : Int) := by omega
     have HO' : Hid (OwnP 27 w.heap.size wr (.slice A3 k c3) m) := Lib.hid ⟨HO.out.1, HO.out.2.imp id fun ⟨g, cap, cur, e, hb, r⟩ => ⟨g, cap, cur, e, Nat.le_trans hxs hb, r⟩⟩
     go_wp2_with fail
     ((try simp only [Exit.inBlock, Exit.then]); refine bodyPost_ret (results_tmp2 rfl _ _ _) rfl ?_)
     exact ⟨_, by rw [HQ2.out]; rfl, by rw [HQ2.out, ← hkK, HML.out]; exact HO'.out, HX.out.trans (HB.out.mono hxs)⟩
 ·have HQ := Lib.hid (HE1.out he)
  have heb : (er == 0) = false := by simpa using he
  clear HE1 HE2 HE3 HVL
  go_enter Tryz.func27, Tryz.ntmps27
  go_wp2_with (go_at_call 25; (with_reducible refine (HIN.out _ (Below.refl _ _)).mono ?_); rintro e w1 ⟨A1, c1, rfl, hrow, hfr, hb1⟩; have HB1 := Lib.hid hb1; clear hb1 hrow hfr)
  ((try simp only [Exit.inBlock, Exit.then]); refine bodyPost_ret (results_tmp2 rfl _ _ _) rfl ?_)
  exact ⟨.slice none 0 0, by rw [HQ.out]; rfl, by rw [HQ.out]; exact OwnP.nil _ _, HB1.out.alloc HB1.out.size _⟩
end
end Go.Proofs.YtljlanhpjpjgaaaGreatDoor
