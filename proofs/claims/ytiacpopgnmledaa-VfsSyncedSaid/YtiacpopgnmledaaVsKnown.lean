/-
  CONTRACTS: chapter 3's law: the program's files alone, act by act; the example that is known.
-/
import Derived.Test.YtiacpopgnmledaaVpMake
import Derived.Test.YtiacpopgnmledaaVpWrite
import Derived.Test.YtiacpopgnmledaaVpCrash
import Derived.Lib.SlBytesConst
import Derived.Laws.IdiomStrings
namespace Go.Proofs.Ytiacpopgnmledaa
open Go.RowKit
open Me Vf
namespace Vp
theorem Pg.tight {w : World} {M : Nat → Prop} {fs N : Nat} {S : Sv} (h : Pg w M fs N S) : ∃ M2, Pg w M2 fs N S ∧ ∀ b, M2 b → M b ∧ b < w.heap.size := by
  obtain ⟨mb, lr, I, db, G, c, j, lv, mv, ys, h1, h2, h3, h4⟩ := h
  exact ⟨Own fs mb lr I db G, ⟨mb, lr, I, db, G, c, j, lv, mv, ys, h1, h2, h3, fun b hb => hb⟩, fun b hb => ⟨h4 b hb, h1.lt hb⟩⟩
/-- The program's files in blocks from B on; below B all is as it was. -/
def Fsx (B : Nat) (w0 : World) (fs N : Nat) (S : Sv) (w : World) : Prop := Below B w0 w ∧ ∃ M, Pg w M fs N S ∧ ∀ b, M b → B ≤ b ∧ b < w.heap.size
theorem Fsx.act {B fs N N' f : Nat} {w0 w W : World} {S S' : Sv} {args : Array Value} {v : Value} (h : Fsx B w0 fs N S w) (hW : Below w.heap.size w W) (hB : B ≤ w.heap.size)
    (hc : ∀ M, Pg W M fs N S → (∀ b, M b → b < w.heap.size) → Calls Try.prog f args W (PNext W M fs N' S' v)) : Calls Try.prog f args W fun e w' => e = .returned v ∧ Hid (Fsx B w0 fs N' S' w') := by
  obtain ⟨h1, M, h2, h3⟩ := h
  refine (hc M (h2.below hW) (fun b hb => (h3 b hb).2)).mono ?_
  rintro e w' ⟨rfl, M', p1, p2, p3⟩
  obtain ⟨M2, q1, q2⟩ := p1.tight
  refine ⟨rfl, Lib.hid ⟨(h1.trans (hW.mono hB)).trans (p2.below (Nat.le_trans hB hW.size) (fun i hi hm => by have := (h3 i hm).1; omega)), M2, q1, fun b hb => ⟨?_, (q2 b hb).2⟩⟩⟩
  rcases p3 b (q2 b hb).1 with h | h
  · exact (h3 b h).1
  · exact Nat.le_trans (Nat.le_trans hB hW.size) h
theorem Fsx.read {B fs N : Nat} {w0 w : World} {S : Sv} (h : Fsx B w0 fs N S w) (hB : B ≤ w.heap.size) (n : List UInt8) (t m : Int) (hti : t ≤ 9223372036854775807) :
    Calls Try.prog 20 #[.pointer (some ⟨fs, 0, none⟩), .string ⟨n.toArray⟩, .int .i64 t, .int .i64 m] w fun e w' => (∃ v, e = .returned (.tuple #[v, .int .i64 (Vf.read S.now n t m).2]) ∧ Bs w' (fun i => w.heap.size ≤ i) v (Vf.read S.now n t m).1) ∧ Hid (Fsx B w0 fs N S w') ∧ Below w.heap.size w w' := by
  obtain ⟨h1, M, h2, h3⟩ := h
  refine (pread_any h2 n t m hti).mono ?_
  rintro e w' ⟨v, rfl, hb, hbw⟩
  exact ⟨⟨v, rfl, hb⟩, Lib.hid ⟨h1.trans (hbw.mono hB), M, h2.below hbw, fun b hb => ⟨(h3 b hb).1, Nat.lt_of_lt_of_le (h3 b hb).2 hbw.size⟩⟩, hbw⟩
theorem Fsx.below {B fs N : Nat} {w0 w W : World} {S : Sv} (h : Fsx B w0 fs N S w) (hB : B ≤ w.heap.size) (hW : Below w.heap.size w W) : Fsx B w0 fs N S W := by
  obtain ⟨h1, M, h2, h3⟩ := h
  exact ⟨h1.trans (hW.mono hB), M, h2.below hW, fun b hb => ⟨(h3 b hb).1, Nat.lt_of_lt_of_le (h3 b hb).2 hW.size⟩⟩
end Vp
/-- One row of bytes, handed in as a list of one. -/
theorem ps_lit (w : World) (l : List UInt8) (cs : Array Value) (hcs : cs.toList = by8 l) (n : Nat) (hn : n = l.length) (T T2 : TypeId) (fr : Nat × Nat) (hl : l.length ≤ 4294967296) :
    Vf.Ps ((w.alloc (.cells cs T fr)).alloc (.cells #[.slice (some ⟨w.heap.size, 0, none⟩) n n] T2)) (fun b => w.heap.size ≤ b) (.slice (some ⟨w.heap.size + 1, 0, none⟩) 1 1) [l] := by
  subst hn
  have h0 : ((w.alloc (.cells cs T fr)).alloc (.cells #[.slice (some ⟨w.heap.size, 0, none⟩) l.length l.length] T2)).heap[w.heap.size]? = some (.cells (by8 l).toArray T fr) := by
    rw [Below.heap_alloc _ _ _ (by simp), heap_alloc_new, ← hcs]
  have h1 : ((w.alloc (.cells cs T fr)).alloc (.cells #[.slice (some ⟨w.heap.size, 0, none⟩) l.length l.length] T2)).heap[w.heap.size + 1]? = some (.cells #[.slice (some ⟨w.heap.size, 0, none⟩) l.length l.length] T2 (0, 0)) := by
    have := heap_alloc_new (w.alloc (.cells cs T fr)) (.cells #[.slice (some ⟨w.heap.size, 0, none⟩) l.length l.length] T2)
    simpa using this
  refine ⟨some ⟨w.heap.size + 1, 0, none⟩, 1, [.slice (some ⟨w.heap.size, 0, none⟩) l.length l.length], rfl, Nat.le_refl _, by unfold maxLen; omega, fun _ => ⟨_, rfl, (Array.getElem?_eq_some_iff.1 h1).1, Nat.le_succ _, fun j u hu => ?_⟩, ⟨[_], [], rfl, ⟨_, rfl, Bs.block h0 (Nat.le_refl _) rfl hl⟩, rfl⟩⟩
  rw [Addr.add_lit, Nat.zero_add, cell_of_row _ _ j _ _ _ h1]
  simpa using hu
theorem fsx_create {B fs N : Nat} {w0 w W : World} {S : Vf.Sv} (h : Vp.Fsx B w0 fs N S w) (hW : Below w.heap.size w W) (hB : B ≤ w.heap.size) (n : List UInt8) (ps : List (List UInt8)) (pv : Value) {Gq : Nat → Prop} (hp : Vf.Ps W Gq pv ps)
    (hGq : ∀ b, Gq b → b < W.heap.size) (hN : N ≤ 1048575) (hu : Vf.used S.now ≤ 4294967296) (hr0 : 0 ≤ S.room) (hr1 : S.room ≤ 1073741824) (hpl : ps.length ≤ 1048576) (hpt : ps.flatten.length ≤ 1073741824) :
    Calls Try.prog 16 #[.pointer (some ⟨fs, 0, none⟩), .string ⟨n.toArray⟩, pv] W fun e w' => e = .returned (.int .i64 (Vf.create S n ps.flatten).2) ∧ Hid (Vp.Fsx B w0 fs (N + 2) (Vf.create S n ps.flatten).1 w') :=
  h.act hW hB fun _ hM _ => pcreate_any hM n ps pv hp hN hu hr0 hr1 hpl hpt hGq
theorem fsx_write {B fs N : Nat} {w0 w W : World} {S : Vf.Sv} (h : Vp.Fsx B w0 fs N S w) (hW : Below w.heap.size w W) (hB : B ≤ w.heap.size) (n : List UInt8) (t : Int) (ps : List (List UInt8)) (pv : Value) {Gq : Nat → Prop} (hp : Vf.Ps W Gq pv ps) (hti : t ≤ 9223372036854775807)
    (hGq : ∀ b, Gq b → w.heap.size ≤ b ∧ b < W.heap.size) (hN : N ≤ 1048575) (hpl : ps.length ≤ 1048576) (hpt : ps.flatten.length ≤ 1073741824) :
    Calls Try.prog 17 #[.pointer (some ⟨fs, 0, none⟩), .string ⟨n.toArray⟩, .int .i64 t, pv] W fun e w' => e = .returned (.int .i64 (Vf.write S n t ps.flatten).2) ∧ Hid (Vp.Fsx B w0 fs (N + 2) (Vf.write S n t ps.flatten).1 w') :=
  h.act hW hB fun _ hM hlt => pwrite_any hM n t ps pv hp hti hN hpl hpt (fun b hb => ⟨(hGq b hb).2, fun hm => by have := hlt b hm; have := (hGq b hb).1; omega⟩)
theorem fsx_new (room : Int) (w : World) (hr : 0 ≤ room) (hr2 : room ≤ 1073741824) :
    Calls Try.prog 7 #[.int .i64 room] w fun e w' => e = .returned (.tuple #[.pointer (some ⟨w.heap.size, 0, none⟩), .int .i64 0]) ∧ Hid (Vp.Fsx w.heap.size w w.heap.size 0 ⟨room, [], [], []⟩ w') := by
  refine (pnew_any room w hr hr2).mono ?_
  rintro e w' ⟨rfl, ⟨M, h1, h2⟩, h3⟩
  obtain ⟨M2, q1, q2⟩ := h1.tight
  exact ⟨rfl, Lib.hid ⟨h3, M2, q1, fun b hb => ⟨h2 b (q2 b hb).1, (q2 b hb).2⟩⟩⟩

namespace Kn
def s0 : Vf.Sv := ⟨100, [], [], []⟩
def s1 : Vf.Sv := (Vf.create s0 [97] [97, 98, 99]).1
def s2 : Vf.Sv := { s1 with was := s1.now, l := [] }
def s3 : Vf.Sv := (Vf.write s2 [97] 1 [120, 121]).1
def s4 : Vf.Sv := ⟨s3.room, Vf.crash s3 0 1, Vf.crash s3 0 1, []⟩
theorem i0 : Vf.Inv 0 s0 := Inv.new (by decide) (by decide)
theorem i1 : Vf.Inv 1 s1 := i0.create _ _
theorem i2 : Vf.Inv 1 s2 := i1.sync
theorem i3 : Vf.Inv 2 s3 := i2.write _ _ _
theorem r4 : Vf.read s4.now [97] 0 3 = ([97, 120, 99], 0) := by rfl
end Kn

set_option maxRecDepth 100000 in
set_option maxHeartbeats 1600000 in
theorem known_any (w : World) : Calls Try.prog 11 #[] w fun e w' => e = .returned (.bool true) ∧ Below w.heap.size w w' := by
  have HN := Lib.hid (fsx_new 100 w (by omega) (by omega))
  obtain ⟨B, hB⟩ : ∃ B, B = w.heap.size := ⟨_, rfl⟩
  rw [← hB] at HN
  have HCR : Hid (∀ w1, Hid (Vp.Fsx B w B 0 ⟨100, [], [], []⟩ w1) → Calls Try.prog 16 #[.pointer (some ⟨B, 0, none⟩), .string ⟨#[97]⟩, .slice (some ⟨w1.heap.size + 1, 0, none⟩) 1 1]
      ((w1.alloc (.cells #[.int .u8 97, .int .u8 98, .int .u8 99] 5 (3, 4))).alloc (.cells #[.slice (some ⟨w1.heap.size, 0, none⟩) 3 3] 40)) fun e w' => e = .returned (.int .i64 0) ∧ Hid (Vp.Fsx B w B 2 Kn.s1 w')) := Lib.hid fun w1 h => by
    have hs : B ≤ w1.heap.size := by have := h.out.1.size; omega
    have hb : Below w1.heap.size w1 ((w1.alloc (.cells #[.int .u8 97, .int .u8 98, .int .u8 99] 5 (3, 4))).alloc (.cells #[.slice (some ⟨w1.heap.size, 0, none⟩) 3 3] 40)) := ((Below.refl _ _).alloc (Nat.le_refl _) _).alloc (by simp) _
    have hp := ps_lit w1 [97, 98, 99] #[.int .u8 97, .int .u8 98, .int .u8 99] rfl 3 rfl 5 40 (3, 4) (by decide)
    obtain ⟨A, c, xs, q1, q2, q3, q4, q5⟩ := hp
    have hp2 : Vf.Ps _ (fun b => w1.heap.size ≤ b ∧ b < _) (.slice (some ⟨w1.heap.size + 1, 0, none⟩) 1 1) [[97, 98, 99]] := ⟨A, c, xs, q1, q2, q3, q4.mono (fun i hi hg => ⟨hg, hi⟩), q5.mono (fun b cs hc => by
      obtain ⟨v, e, hv⟩ := hc
      exact ⟨v, e, hv.mono (fun i hi hg => ⟨hg, hi⟩)⟩)⟩
    exact fsx_create h.out hb hs [97] [[97, 98, 99]] _ hp2 (fun b h => h.2) (by decide) (by decide) (by decide) (by decide) (by decide) (by decide)
  have HSY : Hid (∀ w1, Hid (Vp.Fsx B w B 2 Kn.s1 w1) → Calls Try.prog 12 #[.pointer (some ⟨B, 0, none⟩)] w1 fun e w' => e = .returned (.tuple #[]) ∧ Hid (Vp.Fsx B w B 2 Kn.s2 w')) := Lib.hid fun w1 h => by
    have hs : B ≤ w1.heap.size := by have := h.out.1.size; omega
    exact h.out.act (Below.refl _ _) hs (fun M hM _ => psync_any hM)
  have HWR : Hid (∀ w1, Hid (Vp.Fsx B w B 2 Kn.s2 w1) → Calls Try.prog 17 #[.pointer (some ⟨B, 0, none⟩), .string ⟨#[97]⟩, .int .i64 1, .slice (some ⟨w1.heap.size + 1, 0, none⟩) 1 1]
      ((w1.alloc (.cells #[.int .u8 120, .int .u8 121] 5 (2, 3))).alloc (.cells #[.slice (some ⟨w1.heap.size, 0, none⟩) 2 2] 40)) fun e w' => e = .returned (.int .i64 0) ∧ Hid (Vp.Fsx B w B 4 Kn.s3 w')) := Lib.hid fun w1 h => by
    have hs : B ≤ w1.heap.size := by have := h.out.1.size; omega
    have hb : Below w1.heap.size w1 ((w1.alloc (.cells #[.int .u8 120, .int .u8 121] 5 (2, 3))).alloc (.cells #[.slice (some ⟨w1.heap.size, 0, none⟩) 2 2] 40)) := ((Below.refl _ _).alloc (Nat.le_refl _) _).alloc (by simp) _
    have hp := ps_lit w1 [120, 121] #[.int .u8 120, .int .u8 121] rfl 2 rfl 5 40 (2, 3) (by decide)
    obtain ⟨A, c, xs, q1, q2, q3, q4, q5⟩ := hp
    have hp2 : Vf.Ps _ (fun b => w1.heap.size ≤ b ∧ b < _) (.slice (some ⟨w1.heap.size + 1, 0, none⟩) 1 1) [[120, 121]] := ⟨A, c, xs, q1, q2, q3, q4.mono (fun i hi hg => ⟨hg, hi⟩), q5.mono (fun b cs hc => by
      obtain ⟨v, e, hv⟩ := hc
      exact ⟨v, e, hv.mono (fun i hi hg => ⟨hg, hi⟩)⟩)⟩
    exact fsx_write h.out hb hs [97] 1 [[120, 121]] _ hp2 (by decide) (fun b h => h) (by decide) (by decide) (by decide)
  have HCS : Hid (∀ w1, Hid (Vp.Fsx B w B 4 Kn.s3 w1) → Calls Try.prog 14 #[.pointer (some ⟨B, 0, none⟩), .int .i64 0, .int .i64 1] w1 fun e w' => e = .returned (.tuple #[]) ∧ Hid (Vp.Fsx B w B 4 Kn.s4 w')) := Lib.hid fun w1 h => by
    have hs : B ≤ w1.heap.size := by have := h.out.1.size; omega
    exact h.out.act (Below.refl _ _) hs (fun M hM _ => pcrash_any hM 0 1 (by decide) Kn.i3)
  have HRD : Hid (∀ w1, Hid (Vp.Fsx B w B 4 Kn.s4 w1) → Calls Try.prog 20 #[.pointer (some ⟨B, 0, none⟩), .string ⟨#[97]⟩, .int .i64 0, .int .i64 3] w1 fun e w' => ∃ A c, e = .returned (.tuple #[.slice A 3 c, .int .i64 0]) ∧ (convert 40 9 (.slice A 3 c)).run Try.prog w' = .ok (.string ⟨#[97, 120, 99]⟩) w' ∧ Below B w w') := Lib.hid fun w1 h => by
    have hs : B ≤ w1.heap.size := by have := h.out.1.size; omega
    refine (h.out.read hs [97] 0 3 (by decide)).mono ?_
    rintro e w' ⟨⟨v, rfl, hb⟩, hx, _⟩
    rw [Kn.r4] at hb ⊢
    obtain ⟨A, c, rfl, _, _, hr⟩ := hb
    obtain ⟨ad, rfl, _, _, hc⟩ := hr (by decide)
    exact ⟨_, c, rfl, run_convert_bytes_back w' _ _ _ ad c [97, 120, 99] Try.underlying40 Try.underlying5 Try.underlying9 (fun j hj => hc j _ (by8_get [97, 120, 99] j hj)), hx.out.1⟩
  have k1 : ∀ W : World, (convert 40 40 (.slice (some ⟨W.heap.size, 0, none⟩) 3 3)).run Try.prog (W.alloc (.cells #[.int .u8 97, .int .u8 98, .int .u8 99] 5)) = .ok (.slice (some ⟨W.heap.size, 0, none⟩) 3 3) (W.alloc (.cells #[.int .u8 97, .int .u8 98, .int .u8 99] 5 (3, 4))) := fun W => Lib.run_convert_bytes_const W _ _ _ 3 3 Try.underlying40 Try.underlying5
  have k2 : ∀ W : World, (convert 40 40 (.slice (some ⟨W.heap.size, 0, none⟩) 2 2)).run Try.prog (W.alloc (.cells #[.int .u8 120, .int .u8 121] 5)) = .ok (.slice (some ⟨W.heap.size, 0, none⟩) 2 2) (W.alloc (.cells #[.int .u8 120, .int .u8 121] 5 (2, 3))) := fun W => Lib.run_convert_bytes_const W _ _ _ 2 2 Try.underlying40 Try.underlying5
  have HB := Lib.hid hB
  clear hB
  go_enter Try.func11, Try.ntmps11
  go_wp2_with (first | (go_at_call 7; (with_reducible refine (HN.out).mono ?_); rintro e w1 ⟨rfl, h1⟩) | (go_at_call 16; (with_reducible refine (HCR.out w1 h1).mono ?_); rintro e w2 ⟨rfl, h2⟩) | (go_at_call 12; (with_reducible refine (HSY.out w2 h2).mono ?_); rintro e w3 ⟨rfl, h3⟩) | (go_at_call 17; (with_reducible refine (HWR.out w3 h3).mono ?_); rintro e w4 ⟨rfl, h4⟩) | (go_at_call 14; (with_reducible refine (HCS.out w4 h4).mono ?_); rintro e w5 ⟨rfl, h5⟩) | (go_at_call 20; (with_reducible refine (HRD.out w5 h5).mono ?_); rintro e w6 ⟨A, c, rfl, h6, hb6⟩))
  go_ret
  exact ⟨rfl, by rw [← HB.out]; exact hb6⟩
end Go.Proofs.Ytiacpopgnmledaa
