/-
  CONTRACTS: each call of VfsOwn over its state.
-/
import Derived.Test.YtiacpopgnmledaaVsOwnSt
import Derived.Test.YtiacpopgnmledaaVsKnown
namespace Go.Proofs.Ytiacpopgnmledaa
open Go.RowKit
open Me Vf
namespace Vs
def o0 : Sv := ⟨65536, [], [], []⟩
def o1 (b : List UInt8) : Sv := (Vf.create o0 [97] b).1
def o2 (b c : List UInt8) : Sv := (Vf.write (o1 b) [97] 0 c).1
theorem is97 : Vf.is [97] = true := by decide
theorem o1_eq {b : List UInt8} (hb : b.length ≤ 3000) : Vf.create o0 [97] b = (⟨65536, [⟨[97], b⟩], [], [⟨1, [97], 0, b⟩]⟩, 0) := by
  unfold Vf.create
  rw [if_neg (by simp [is97]), if_neg (by show ¬ (0 : Int) ≤ -1; omega), if_neg (by show ¬ ((65536 : Int) - ((used [] : Nat) : Int) < b.length); simp [used]; omega)]
  rfl
theorem ix_one (b : List UInt8) : ix [⟨[97], b⟩] [97] = 0 := rfl
theorem o2_eq {b c : List UInt8} (hb : b.length ≤ 3000) (hc : c.length ≤ b.length) : Vf.write (o1 b) [97] 0 c = (⟨65536, [⟨[97], upd b 0 c⟩], [], [⟨1, [97], 0, b⟩, ⟨2, [97], 0, c⟩]⟩, 0) := by
  have h1 : o1 b = ⟨65536, [⟨[97], b⟩], [], [⟨1, [97], 0, b⟩]⟩ := congrArg Prod.fst (o1_eq hb)
  rw [h1]
  have hl : lenAt [⟨[97], b⟩] [97] = b.length := rfl
  unfold Vf.write
  rw [if_neg (by simp [is97]), if_neg (by show ¬ (ix [⟨[97], b⟩] [97] < 0); rw [ix_one]; omega), if_neg (by show ¬ ((0 : Int) < 0 ∨ (lenAt [⟨[97], b⟩] [97] : Int) < 0 ∨ (lenAt [⟨[97], b⟩] [97] : Int) - 0 < c.length); rw [hl]; omega)]
  rfl
theorem o2_read {b c : List UInt8} (hb : b.length ≤ 3000) (hc : c.length ≤ b.length) : Vf.read (o2 b c).now [97] ((0 : Nat) : Int) (b.length : Int) = (c ++ b.drop c.length, 0) := by
  have h2 : (o2 b c).now = [⟨[97], upd b 0 c⟩] := by unfold o2; rw [o2_eq hb hc]
  rw [h2]
  have hu : upd b 0 c = c ++ b.drop c.length := by unfold upd; simp
  have hl : bytesAt [⟨[97], upd b 0 c⟩] [97] = c ++ b.drop c.length := hu
  have hlen : (c ++ b.drop c.length).length = b.length := by simp; omega
  unfold Vf.read
  rw [if_neg (by simp [is97]), if_neg (by show ¬ (ix [⟨[97], upd b 0 c⟩] [97] < 0); rw [ix_one]; omega), if_neg (by rw [hl, hlen]; omega), hl]
  simp only [Int.toNat_natCast, List.drop_zero]
  rw [List.take_of_length_le (by omega)]
end Vs

theorem fo_new (w : World) : Calls Try.prog 7 #[.int .i64 65536] w fun e w' => e = .returned (.tuple #[.pointer (some ⟨w.heap.size, 0, none⟩), .int .i64 0]) ∧ Hid (Vs.Fo w w' w.heap.size 0 Vs.o0 []) := by
  refine (pnew_any 65536 w (by omega) (by omega)).mono ?_
  rintro e w' ⟨rfl, ⟨M, h1, h2⟩, h3⟩
  obtain ⟨M2, q1, q2⟩ := h1.tight
  exact ⟨rfl, Lib.hid ⟨h3, ⟨M2, q1, fun b hb => ⟨h2 b (q2 b hb).1, (q2 b hb).2⟩, (fun r hr => nomatch hr)⟩, (fun r hr => nomatch hr), List.Pairwise.nil⟩⟩
theorem fo_roomy {w0 w : World} {fs N : Nat} {S : Vf.Sv} {R : List (Value × List UInt8)} (h : Vs.Fo w0 w fs N S R) {v : Value} {l : List UInt8} (hb : Bs w0 (Vs.Old w0) v l) (hl : l.length ≤ 3000) :
    Calls Try.prog 15 #[v] w fun e w' => ∃ g cap, e = .returned (.slice (some ⟨g, 0, none⟩) (l.length + 1) cap) ∧ ((l.length : Int) + 1 ≤ (cap : Int)) ∧ Hid (Vs.Fo w0 w' fs N S ((.slice (some ⟨g, 0, none⟩) (l.length + 1) cap, l ++ [171]) :: R)) := by
  refine (roomy_any l v (Vs.Old w0) w (hb.keep h.below.size (fun i hi _ => h.below.block i hi)) (by omega)).mono ?_
  rintro e w' ⟨g, cap, rfl, ho, hbl⟩
  have ho2 : w'.ownsRow w.heap.size 5 1 (.slice (some ⟨g, 0, none⟩) (l.length + 1) cap) (l ++ [171]).length (by8 (l ++ [171])) := by
    rw [List.length_append]; exact ho
  have hc := (Vs.row_part ho2).2
  exact ⟨g, cap, rfl, by omega, Lib.hid (h.row ho2 hbl)⟩
theorem fo_create {w0 w : World} {fs : Nat} {R : List (Value × List UInt8)} {b : List UInt8} {g cap : Nat} (h : Vs.Fo w0 w fs 0 Vs.o0 R) (hr : (Value.slice (some ⟨g, 0, none⟩) (b.length + 1) cap, b ++ [171]) ∈ R) (hl : b.length ≤ 3000) :
    Calls Try.prog 16 #[.pointer (some ⟨fs, 0, none⟩), .string ⟨#[97]⟩, .slice (some ⟨w.heap.size, 0, none⟩) 1 1] (w.alloc (.cells #[.slice (some ⟨g, 0, none⟩) b.length cap] 40)) fun e w' => e = .returned (.int .i64 0) ∧ Hid (Vs.Fo w0 w' fs 2 (Vs.o1 b) R) := by
  have ho := h.rows _ hr
  have hp := Vs.one_row (Vs.row_part ho).1
  have hg := (ho.lt g rfl).2
  have e2 : (Vf.create Vs.o0 [97] [b].flatten).2 = 0 := by rw [show [b].flatten = b by simp, Vs.o1_eq hl]
  have e1 : (Vf.create Vs.o0 [97] [b].flatten).1 = Vs.o1 b := by rw [show [b].flatten = b by simp]; rfl
  have := h.act (N' := 0 + 2) (S' := (Vf.create Vs.o0 [97] [b].flatten).1) (f := 16) (args := #[.pointer (some ⟨fs, 0, none⟩), .string ⟨[97].toArray⟩, .slice (some ⟨w.heap.size, 0, none⟩) 1 1]) (v := .int .i64 (Vf.create Vs.o0 [97] [b].flatten).2) ((Below.refl _ _).alloc (Nat.le_refl _) (.cells #[.slice (some ⟨g, 0, none⟩) b.length cap] 40)) (fun M hM _ _ => pcreate_any hM [97] [b] _ hp (by omega) (by show used [] ≤ _; simp [used]) (by show (0 : Int) ≤ 65536; omega) (by show (65536 : Int) ≤ _; omega) (by simp) (by simp; omega) (fun i hi => by
    rcases hi with rfl | rfl
    · simp; omega
    · simp))
  rw [e1, e2] at this
  exact this
theorem fo_write {w0 w : World} {fs : Nat} {R : List (Value × List UInt8)} {b c : List UInt8} {g cap : Nat} (h : Vs.Fo w0 w fs 2 (Vs.o1 b) R) (hr : (Value.slice (some ⟨g, 0, none⟩) (c.length + 1) cap, c ++ [171]) ∈ R) (hl : b.length ≤ 3000) (hc : c.length ≤ b.length) :
    Calls Try.prog 17 #[.pointer (some ⟨fs, 0, none⟩), .string ⟨#[97]⟩, .int .i64 0, .slice (some ⟨w.heap.size, 0, none⟩) 1 1] (w.alloc (.cells #[.slice (some ⟨g, 0, none⟩) c.length cap] 40)) fun e w' => e = .returned (.int .i64 0) ∧ Hid (Vs.Fo w0 w' fs 4 (Vs.o2 b c) R) := by
  have ho := h.rows _ hr
  have hp := Vs.one_row (Vs.row_part ho).1
  have hg := (ho.lt g rfl).2
  have e2 : (Vf.write (Vs.o1 b) [97] 0 [c].flatten).2 = 0 := by rw [show [c].flatten = c by simp, Vs.o2_eq hl hc]
  have e1 : (Vf.write (Vs.o1 b) [97] 0 [c].flatten).1 = Vs.o2 b c := by rw [show [c].flatten = c by simp]; rfl
  have := h.act (N' := 2 + 2) (S' := (Vf.write (Vs.o1 b) [97] 0 [c].flatten).1) (f := 17) (args := #[.pointer (some ⟨fs, 0, none⟩), .string ⟨[97].toArray⟩, .int .i64 0, .slice (some ⟨w.heap.size, 0, none⟩) 1 1]) (v := .int .i64 (Vf.write (Vs.o1 b) [97] 0 [c].flatten).2) ((Below.refl _ _).alloc (Nat.le_refl _) (.cells #[.slice (some ⟨g, 0, none⟩) c.length cap] 40)) (fun M hM hR hlt => pwrite_any hM [97] 0 [c] _ hp (by omega) (by omega) (by simp) (by simp; omega) (fun i hi => by
    rcases hi with rfl | rfl
    · exact ⟨by simp; omega, hR _ hr _ rfl⟩
    · exact ⟨by simp, fun hm => by have := hlt _ hm; omega⟩))
  rw [e1, e2] at this
  exact this
theorem fo_stands {w0 w : World} {fs N : Nat} {S : Vf.Sv} {R : List (Value × List UInt8)} {l : List UInt8} {g cap : Nat} {v : Value} (h : Vs.Fo w0 w fs N S R) (hr : (Value.slice (some ⟨g, 0, none⟩) (l.length + 1) cap, l ++ [171]) ∈ R) (hb : Bs w0 (Vs.Old w0) v l) (hl : l.length ≤ 3000) :
    Calls Try.prog 18 #[.slice (some ⟨g, 0, none⟩) (l.length + 1) cap, v] w fun e w' => e = .returned (.bool true) ∧ Hid (Vs.Fo w0 w' fs N S R) := by
  have ho := h.rows _ hr
  rw [List.length_append] at ho
  refine (stands_any l g cap v _ _ w ho (hb.keep h.below.size (fun i hi _ => h.below.block i hi)) (by omega)).mono ?_
  rintro e w' ⟨rfl, hbl⟩
  exact ⟨rfl, Lib.hid (h.under hbl)⟩
theorem fo_spoil {w0 w : World} {fs N : Nat} {S : Vf.Sv} {R : List (Value × List UInt8)} {v : Value} {l : List UInt8} (h : Vs.Fo w0 w fs N S ((v, l) :: R)) (hl : l.length ≤ 3001) :
    Calls Try.prog 19 #[v] w fun e w' => e = .returned (.tuple #[]) ∧ Hid (Vs.Fo w0 w' fs N S R) := by
  have ho := h.rows _ (List.mem_cons_self ..)
  refine (spoil_any v _ _ _ w ho h.below.size (by show l.length ≤ 1048577; omega)).mono ?_
  rintro e w' ⟨rfl, hk⟩
  exact ⟨rfl, Lib.hid (h.spoilt hk)⟩
theorem fo_read {w0 w : World} {fs N : Nat} {R : List (Value × List UInt8)} {b c : List UInt8} (h : Vs.Fo w0 w fs N (Vs.o2 b c) R) (hl : b.length ≤ 3000) (hc : c.length ≤ b.length) :
    Calls Try.prog 20 #[.pointer (some ⟨fs, 0, none⟩), .string ⟨#[97]⟩, .int .i64 0, .int .i64 (b.length : Int)] w fun e w' => e = .returned (.tuple #[.slice (some ⟨w.heap.size, 0, none⟩) b.length b.length, .int .i64 0]) ∧ Hid (Vs.Fo w0 w' fs N (Vs.o2 b c) ((.slice (some ⟨w.heap.size, 0, none⟩) b.length b.length, c ++ b.drop c.length) :: R)) := by
  obtain ⟨M, hM, _, _⟩ := h.files
  have hlen : (c ++ b.drop c.length).length = b.length := by simp; omega
  refine (pread_own hM [97] 0 b.length _ Vs.is97 (Vs.o2_read hl hc) hlen (by omega)).mono ?_
  rintro e w' ⟨rfl, ho, hbl⟩
  have hx := h.row ho hbl
  rw [hlen] at hx ⊢
  exact ⟨rfl, Lib.hid hx⟩
end Go.Proofs.Ytiacpopgnmledaa
