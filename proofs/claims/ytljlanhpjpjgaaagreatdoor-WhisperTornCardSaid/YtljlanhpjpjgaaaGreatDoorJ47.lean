/- WtSt WsFi -/
import Derived.Test.YtljlanhpjpjgaaaGreatDoorJ1
import Derived.Test.YtljlanhpjpjgaaaGreatDoorJ46
import Derived.Test.YtljlanhpjpjgaaaGreatDoorJ43
import Derived.Test.YtljlanhpjpjgaaaGreatDoorJ26
import Derived.Test.YtljlanhpjpjgaaaGreatDoorJ44
import Derived.Test.YtljlanhpjpjgaaaGreatDoorJ3
namespace Go.Proofs.YtljlanhpjpjgaaaGreatDoor
set_option maxRecDepth 100000
set_option maxHeartbeats 8000000
section
open Go.RowKit Go.Sort
open Fx (Vl)
open Me
open Wp
open Ws
theorem Wp.RingsV.kp {B : Nat} {W W' : World} {v : Value} {vs : List Value} {L : List (List (Int × Int))} {O : Nat → Prop} (h : RingsV B W v vs L) (k : Kp O W W') (hO : ∀ b, B ≤ b → b < W.heap.size → ¬ O b) : RingsV B W' v vs L :=
 ⟨owns_keep h.own fun g hg => k.block g (World.ownsRow.lt h.own g hg).2 (hO g (World.ownsRow.lt h.own g hg).1 (World.ownsRow.lt h.own g hg).2), h.len, fun i h1 h2 => ⟨(h.each i h1 h2).1.kp7 k fun g hg => hO g ((h.each i h1 h2).1.lt g hg).1 ((h.each i h1 h2).1.lt g hg).2, (h.each i h1 h2).2⟩⟩
theorem row_one (W : World) (a v : Int) : Row (W.alloc (.cells #[.int .i64 a, .int .i64 v] 27)) (some ⟨W.heap.size, 0, none⟩) [(a, v)] 1 := by
 have hr : RowAt (W.alloc (.cells #[.int .i64 a, .int .i64 v] 27)) W.heap.size 27 #[.int .i64 a, .int .i64 v] := RowAt.new W _ _
 refine ⟨Nat.le_refl _, fun _ => ⟨_, _, rfl, ⟨hr.lt, ?_, ?_⟩⟩⟩
 ·intro i hi
  match i, hi with
  | 0, _ => exact hr.cell 0
 ·intro i hi
  match i, hi with
  | 0, _ => exact hr.cell 1
section
variable {w0 W : World} {fs xs c c1 c2 : Nat} {S S1 S2 : Vf.Sv} {Q : Nat → Prop}
theorem kr_create (h : Kr w0 xs c S Q W) (hc : c ≤ 490000) (hd : Hd) (A : Option Addr) (cap : Nat) (hrow : Row W A hd.l cap) :
 Calls Tryz.prog 6 #[.pointer (some ⟨xs, 0, none⟩), .string ⟨#[97]⟩, .agg #[.int .i64 hd.ag, .int .i64 hd.xf, .slice A hd.l.length cap]] W fun e w' => e = .returned (.int .i64 (create S [97] hd).2) ∧ Hid (Kr w0 xs (c + 1) (create S [97] hd).1 Q w') :=
 (h.doc (c' := c + 1) (S' := (create S [97] hd).1) (P := fun e => e = .returned (.int .i64 (create S [97] hd).2)) (fun V ro _ => rcreate_any ro (by omega) [97] hd A cap hrow)).mono fun e w' h => ⟨h.1, h.2.1⟩
theorem kr_update (h : Kr w0 xs c S Q W) (now : Int) (l : List (Int × Int)) (Ap : Option Addr) (capp : Nat) (hp : Row W Ap l capp) (hAp : 0 < l.length → ∀ a, Ap = some a → a.block < w0.heap.size) (hc : c + 27 * l.length ≤ 490000) :
 Calls Tryz.prog 7 #[.pointer (some ⟨xs, 0, none⟩), .string ⟨#[97]⟩, .int .i64 now, .slice Ap l.length capp] W fun e w' => (∃ v, e = .returned v) ∧ Hid (Kr w0 xs (c + 27 * l.length) (update S [97] now l).1 Q w') :=
 (h.doc (c' := c + 27 * l.length) (S' := (update S [97] now l).1) (P := fun e => ∃ v, e = .returned v) (fun V ro hV => (rupdate_any ro [97] now l Ap capp hp (fun h0 a e => hV _ (.inl (hAp h0 a e))) (by omega)).mono fun e w' h => ⟨⟨_, h.1⟩, h.2⟩)).mono fun e w' h => ⟨h.1, h.2.1⟩
theorem kr_rings (h : Kr w0 xs c S Q W) (hc : c ≤ 490000) (hd : Hd) (A : Option Addr) (cap : Nat) (hl : hd.l.length ≤ 100) :
 Calls Tryz.prog 8 #[.pointer (some ⟨xs, 0, none⟩), .agg #[.int .i64 hd.ag, .int .i64 hd.xf, .slice A hd.l.length cap]] W fun e w' => ∃ v vs, e = .returned v ∧ RingsV W.heap.size w' v vs (rings7 S.now hd.l.length) ∧ Hid (Kr w0 xs c S (fun b => Q b ∨ (W.heap.size ≤ b ∧ b < w'.heap.size)) w') := by
 obtain ⟨V, ro⟩ := h.ro
 refine (rings_any ro (by omega) hd.ag hd.xf hd.l A cap hl).mono ?_
 rintro e w' ⟨v, vs, rfl, h1, h2⟩
 exact ⟨v, vs, rfl, h1, Lib.hid (h.laid h2 fun i hi => hi)⟩
theorem dx_create (h : Dx w0 fs xs c1 c2 S1 S2 Q W) (hc : c1 ≤ 490000) (hd : Hd) (A : Option Addr) (cap : Nat) (hrow : Row W A hd.l cap) :
 Calls Tryz.prog 10 #[.pointer (some ⟨fs, 0, none⟩), .string ⟨#[97]⟩, .agg #[.int .i64 hd.ag, .int .i64 hd.xf, .slice A hd.l.length cap]] W fun e w' => e = .returned (.int .i64 (create S1 [97] hd).2) ∧ Hid (Dx w0 fs xs (c1 + 1) c2 (create S1 [97] hd).1 S2 Q w') ∧ Hid (Kp (fun b => ¬ (b < w0.heap.size ∨ Q b)) W w') :=
 h.prog (c1' := c1 + 1) (S1' := (create S1 [97] hd).1) (P := fun e => e = .returned (.int .i64 (create S1 [97] hd).2)) (fun V ro _ => create_yes_any ro (by omega) [97] hd A cap hrow)
theorem dx_update (h : Dx w0 fs xs c1 c2 S1 S2 Q W) (hg : Gv w0) (now : Int) (l : List (Int × Int)) (Ap : Option Addr) (capp : Nat) (hp : Row W Ap l capp) (hAp : 0 < l.length → ∀ a, Ap = some a → a.block < w0.heap.size) (hc : c1 + 27 * l.length ≤ 490000) (hg0 : 0 < w0.heap.size) :
 Calls Tryz.prog 11 #[.pointer (some ⟨fs, 0, none⟩), .string ⟨#[97]⟩, .int .i64 now, .slice Ap l.length capp] W fun e w' => (∃ v, e = .returned v) ∧ Hid (Dx w0 fs xs (c1 + 27 * l.length) c2 (update S1 [97] now l).1 S2 Q w') ∧ Hid (Kp (fun b => ¬ (b < w0.heap.size ∨ Q b)) W w') :=
 h.prog (c1' := c1 + 27 * l.length) (S1' := (update S1 [97] now l).1) (P := fun e => ∃ v, e = .returned v) (fun V ro hV => (update_any7 ro (hg.below h.base) (hV 0 (.inl hg0)) [97] now l Ap capp hp (fun h0 a e => hV _ (.inl (hAp h0 a e))) (by omega)).mono fun e w' h => ⟨⟨_, h.1⟩, h.2⟩)
theorem dx_one (h : Dx w0 fs xs c1 c2 S1 S2 Q W) (now a v : Int) (hc : c2 ≤ 490000) :
 Calls Tryz.prog 7 #[.pointer (some ⟨xs, 0, none⟩), .string ⟨#[97]⟩, .int .i64 now, .slice (some ⟨W.heap.size, 0, none⟩) 1 1] (W.alloc (.cells #[.int .i64 a, .int .i64 v] 27)) fun e w' => (∃ v, e = .returned v) ∧ Hid (Dx w0 fs xs c1 (c2 + 27) S1 (update S2 [97] now [(a, v)]).1 Q w') ∧ Hid (Kp (fun b => ¬ (b < w0.heap.size ∨ Q b)) W w') := by
 have hb : Below W.heap.size W (W.alloc (.cells #[.int .i64 a, .int .i64 v] 27)) := (Below.refl _ _).alloc (Nat.le_refl _) _
 have h2 := h.laid (Q' := fun b => Q b ∨ b = W.heap.size) hb (fun i hi => hi.imp id (fun e => ⟨by omega, by rw [e]; simp⟩))
 refine (h2.doc (c2' := c2 + 27) (S2' := (update S2 [97] now [(a, v)]).1) (P := fun e => ∃ v, e = .returned v) (fun V ro hV => (rupdate_any ro [97] now [(a, v)] _ 1 (row_one W a v) (fun _ b e => ?_) (by simp; omega)).mono fun e w' h => ⟨⟨_, h.1⟩, h.2⟩)).mono ?_
 ·cases e
  exact hV _ (.inr (.inr rfl))
 ·rintro e w' ⟨hr, hd, hk⟩
  exact ⟨hr, Lib.hid (hd.out.less fun _ => .inl), Lib.hid ((Kp.of_below hb).trans hk.out (fun i _ ho hq => ho (Or.imp id Or.inl hq)))⟩
theorem dx_rings (h : Dx w0 fs xs c1 c2 S1 S2 Q W) (hc : c2 ≤ 490000) (hd : Hd) (A : Option Addr) (cap : Nat) (hl : hd.l.length ≤ 100) :
 Calls Tryz.prog 8 #[.pointer (some ⟨xs, 0, none⟩), .agg #[.int .i64 hd.ag, .int .i64 hd.xf, .slice A hd.l.length cap]] W fun e w' => ∃ v vs, e = .returned v ∧ RingsV W.heap.size w' v vs (rings7 S2.now hd.l.length) ∧ Below W.heap.size W w' ∧ Hid (Dx w0 fs xs c1 c2 S1 S2 (fun b => Q b ∨ (W.heap.size ≤ b ∧ b < w'.heap.size)) w') := by
 obtain ⟨V, ro⟩ := h.ro
 refine (rings_any ro (by omega) hd.ag hd.xf hd.l A cap hl).mono ?_
 rintro e w' ⟨v, vs, rfl, h1, h2⟩
 exact ⟨v, vs, rfl, h1, h2, Lib.hid (h.laid h2 fun i hi => hi)⟩
end
end
section
open Go.RowKit Go.Sort
open Fx (Vl)
open Me
open Wp
open Ws
end
end Go.Proofs.YtljlanhpjpjgaaaGreatDoor
