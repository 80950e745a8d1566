/-
  WhVal: CONTRACTS: whead's archives: where they end, whether they may be.
  OwnB: BYTES: rows of the call's own, rows that are read, numbers as four bytes; the document's Four and FromFour (chapter 4's), where a seat has them.
  WhPut: CONTRACTS: numbers as four bytes: the program's put, the document's Four; and back.
  WhHead: CONTRACTS: whead's functions of a header: whether it may be, its size, its places, its span.
-/
import Derived.Test.YtbakngbmfgnmcaaDoorJ2
import Derived.Test.YtbakngbmfgnmcaaDoorJ1
import Derived.Test.YtbakngbmfgnmcaaDoorRows
import Derived.WalkKit
import Derived.WalkSpells
import Derived.WalkLawsBesides
import Derived.Deep.QuietTactic
import Derived.BigQuiet
import Derived.Lib.QuietBelow
import Derived.Lib.Hide
import Derived.IntWalk
import Derived.Deep.RegionHeld3
import Derived.Laws.MakeOwn
import Derived.Laws.BitsLemmas
import Derived.Laws.IdiomStrings
import Derived.Lib.BufferRead

namespace Go.Proofs.YtbakngbmfgnmcaaDoor
open Go.RowKit Go.Sort
open Wh (At)

set_option maxHeartbeats 1000000 in
theorem end_any (l : List (Int × Int)) (b off cap k : Nat) (w : World) (hA : Ars w b off l) (hcap : l.length ≤ cap) (hk : k ≤ l.length) (h8 : l.length ≤ 8) (hcn : ∀ i, i < l.length → 1 ≤ (At l i).2 ∧ (At l i).2 ≤ 16777216) :
    Calls Tryd.prog 31 #[.slice (some ⟨b, off, none⟩) l.length cap, .int .i64 k] w fun e w' => e = .returned (.int .i64 (Wh.ends l k)) ∧ Below w.heap.size w w' := by
  have HB : Hid (∀ i, i ≤ l.length → 16 ≤ Wh.ends l i ∧ Wh.ends l i ≤ 2000000000) := Lib.hid fun i hi => Wh.ends_bd h8 hcn i hi
  have HN := Lib.hid hcn
  have HL := Lib.hid (headBytes_any (l.length : Int) (by omega) (by omega))
  have HZ := Lib.hid (Wh.ends_zero l)
  have HS := Lib.hid (Wh.ends_succ l)
  have HA := Lib.hid hA
  clear hcn hA
  go_enter Tryd.func31, Tryd.ntmps31
  go_wp2_with (go_at_call 23; go_must (refine (HL.out _).mono ?_; rintro e w' ⟨rfl, rfl⟩))
  go_loopw [5, 15] (fun q i wr => ∃ j : Nat, j ≤ k ∧ i = .int .i64 j ∧ q = .int .i64 (Wh.ends l j) ∧ Below w.heap.size w wr) (fun _ i _ => k - (intOf i).toNat)
  case atStart => exact ⟨0, Nat.zero_le _, rfl, by rw [HZ.out, Int.mul_comm], Below.refl _ _⟩
  case round =>
    obtain ⟨j, hj, rfl, rfl, hR⟩ := hrel
    by_cases hlt : j < k
    · have hAr := HA.out.below hR
      have hbl := hAr.lt
      have c0 := hAr.st j (by omega)
      have c1 := hAr.ct j (by omega)
      have b1 := HN.out j (by omega)
      have b2 := HB.out j (by omega)
      have HE := Lib.hid (HS.out j)
      have HR := Lib.hid hR
      clear hR hAr HB HS HZ HN HL
      generalize Wh.ends l j = q at *
      generalize At l j = a at *
      obtain ⟨s, c⟩ := a
      go_wp2
      go_roundw
      case rel =>
        refine ⟨j + 1, by omega, by go_num, ?_, HR.out.alloc HR.out.size _⟩
        exact congrArg (Value.int .i64) (by have := HE.out; dsimp only at this; omega)
      case measure => simp [intOf]; omega
    · obtain rfl : j = k := by omega
      go_wp2
      go_ret
      exact ⟨rfl, hR⟩

set_option maxHeartbeats 1000000 in
theorem areValid_nil (A : Option Addr) (cap : Nat) (w : World) :
    Calls Tryd.prog 48 #[.slice A 0 cap] w fun e w' => e = .returned (.bool false) ∧ Below w.heap.size w w' := by
  go_enter Tryd.func48, Tryd.ntmps48
  go_wp2
  go_ret
  exact ⟨rfl, Below.refl _ _⟩

set_option maxHeartbeats 1000000 in
theorem areValid_long (A : Option Addr) (n cap : Nat) (hn : 8 < n) (w : World) :
    Calls Tryd.prog 48 #[.slice A n cap] w fun e w' => e = .returned (.bool false) ∧ Below w.heap.size w w' := by
  go_enter Tryd.func48, Tryd.ntmps48
  go_wp2
  go_ret
  exact ⟨rfl, Below.refl _ _⟩

set_option maxHeartbeats 1000000 in
theorem areValid_some (l : List (Int × Int)) (b off cap : Nat) (w : World) (hA : Ars w b off l) (hcap : l.length ≤ cap) (h1 : 1 ≤ l.length) (h8 : l.length ≤ 8) :
    Calls Tryd.prog 48 #[.slice (some ⟨b, off, none⟩) l.length cap] w fun e w' => e = .returned (.bool (Wh.av l)) ∧ Below w.heap.size w w' := by
  have HF : Hid (∀ k, k < l.length → Wh.stp l k = false → Wh.av l = false) := Lib.hid fun k hk h => Wh.av_stp hk h
  have HA := Lib.hid hA
  have H1 : Hid (∀ k, Wh.num (At l k).1 = false → Wh.stp l k = false) := Lib.hid fun k => Wh.stp_f1
  have H2 : Hid (∀ k, Wh.num (At l k).2 = false → Wh.stp l k = false) := Lib.hid fun k => Wh.stp_f2
  have H3 : Hid (∀ k, 0 < k → Wh.fol (At l (k - 1)) (At l k) = false → Wh.stp l k = false) := Lib.hid fun k => Wh.stp_f3
  have HT : Hid (∀ k, Wh.alls l k = true → Wh.num (At l k).1 = true → Wh.num (At l k).2 = true → (k = 0 ∨ Wh.fol (At l (k - 1)) (At l k) = true) → Wh.alls l (k + 1) = true) := Lib.hid fun k h h1 h2 h3 => Wh.alls_succ h (Wh.stp_t h1 h2 h3)
  have HB : Hid (∀ k m, k < m → Wh.alls l m = true → (1 ≤ (At l k).1 ∧ (At l k).1 ≤ 16777216) ∧ (1 ≤ (At l k).2 ∧ (At l k).2 ≤ 16777216)) := Lib.hid fun k m => Wh.alls_num
  clear hA
  go_enter Tryd.func48, Tryd.ntmps48
  go_wp2
  go_loopw [15] (fun i wr => ∃ j : Nat, j ≤ l.length ∧ i = .int .i64 j ∧ Hid (Wh.alls l j = true) ∧ Below w.heap.size w wr) (fun i _ => l.length - (intOf i).toNat)
  case atStart => exact ⟨0, Nat.zero_le _, rfl, Lib.hid rfl, Below.refl _ _⟩
  case round =>
    obtain ⟨j, hj, rfl, hal, hR⟩ := hrel
    by_cases hlt : j < l.length
    · have hAr := HA.out.below hR
      have hbl := hAr.lt
      have c0 := hAr.st j hlt
      have c1 := hAr.ct j hlt
      have HR := Lib.hid hR
      have HJ := Lib.hid (HF.out j hlt)
      have HJ1 := Lib.hid (H1.out j)
      have HJ2 := Lib.hid (H2.out j)
      have HJ3 := Lib.hid (H3.out j)
      have HJT := Lib.hid (HT.out j hal.out)
      cases n1 : Wh.num (At l j).1
      · have HQ := Lib.hid (HJ.out (HJ1.out n1))
        clear hR hAr HF HA H1 H2 H3 HT HB HJ HJ1 HJ2 HJ3 HJT
        generalize At l j = a at *
        obtain ⟨s, c⟩ := a
        go_wp2_with (go_at_call 59; go_must (refine (isNum_any _ _).mono ?_; rintro e w' ⟨rfl, rfl⟩))
        go_ret
        exact ⟨by rw [HQ.out]; rfl, HR.out.alloc HR.out.size _⟩
      · cases n2 : Wh.num (At l j).2
        · have HQ := Lib.hid (HJ.out (HJ2.out n2))
          clear hR hAr HF HA H1 H2 H3 HT HB HJ HJ1 HJ2 HJ3 HJT
          generalize At l j = a at *
          obtain ⟨s, c⟩ := a
          go_wp2_with (go_at_call 59; go_must (refine (isNum_any _ _).mono ?_; rintro e w' ⟨rfl, rfl⟩))
          go_ret
          exact ⟨by rw [HQ.out]; rfl, HR.out.alloc HR.out.size _⟩
        · have HJT := Lib.hid (HJT.out n1 n2)
          cases j with
          | zero =>
            have HQ := Lib.hid (HJT.out (.inl rfl))
            simp only [Nat.zero_mul, Nat.add_zero] at c0 c1
            clear hR hAr HF HA H1 H2 H3 HT HB HJ HJ1 HJ2 HJ3 HJT
            generalize At l 0 = a at *
            obtain ⟨s, c⟩ := a
            go_wp2_with (go_at_call 59; go_must (refine (isNum_any _ _).mono ?_; rintro e w' ⟨rfl, rfl⟩))
            refine wp_region_quiet_below (by kernel_rfl) (by kernel_rfl) ?_
            repeat (go_big_quiet_step (fail))
            refine wpQuiet_nil ?_
            intro _ hw'
            obtain ⟨⟨dq, osq⟩, hw''⟩ := hw'
            subst hw''
            go_wp2
            go_roundw
            case rel => exact ⟨1, by omega, by go_num, HQ, (HR.out.alloc HR.out.size _).trans ((below_regrown _ _ _).mono (by have := HR.out.size; simp; omega))⟩
            case measure => simp [intOf]; omega
          | succ m =>
            have d0 := hAr.st m (by omega)
            have d1 := hAr.ct m (by omega)
            obtain ⟨⟨p1, p2⟩, p3, p4⟩ := HB.out m (m + 1) (by omega) hal.out
            obtain ⟨q1, q2⟩ := Wh.num_bd n1
            obtain ⟨q3, q4⟩ := Wh.num_bd n2
            have HK3 : Hid (Wh.fol (At l m) (At l (m + 1)) = false → Wh.av l = false) := Lib.hid fun h => HJ.out (HJ3.out (by omega) h)
            have HKT : Hid (Wh.fol (At l m) (At l (m + 1)) = true → Wh.alls l (m + 1 + 1) = true) := Lib.hid fun h => HJT.out (.inr h)
            have hg : decide ((0 : Int) < (m : Int) + 1) = true := decide_eq_true (by omega)
            have HFO := Lib.hid (follows_any (At l m).1 (At l m).2 (At l (m + 1)).1 (At l (m + 1)).2 p1 p2 p3 p4 q1 q2 q3 q4)
            have hml : m + 1 ≤ l.length := by omega
            clear hR hAr HF HA H1 H2 H3 HT HB HJ HJ1 HJ2 hal HJ3 HJT
            generalize At l (m + 1) = a at *
            generalize At l m = a0 at *
            obtain ⟨s, c⟩ := a
            obtain ⟨s0, cc⟩ := a0
            cases hfo : Wh.fol (s0, cc) (s, c)
            · have HQ := Lib.hid (HK3.out hfo)
              clear HK3 HKT
              go_wp2_with (go_at_call 59; go_must (refine (isNum_any _ _).mono ?_; rintro e w' ⟨rfl, rfl⟩))
              obtain ⟨kc, kf⟩ := kgrown (wr.alloc (.cells #[.int .i64 s, .int .i64 c] 24))
              refine wp_region_quiet_below (by kernel_rfl) (by kernel_rfl) ?_
              repeat (go_big_quiet_step ((go_at_call 60; exact Calls.regrown_of (HFO.out _))))
              refine wpQuiet_nil ?_
              intro _ hw'
              obtain ⟨⟨dq, osq⟩, hw''⟩ := hw'
              subst hw''
              go_wp2
              go_ret
              exact ⟨by rw [HQ.out]; rfl, (HR.out.alloc HR.out.size _).trans ((below_regrown _ _ _).mono (by have := HR.out.size; simp; omega))⟩
            · have HQ := Lib.hid (HKT.out hfo)
              clear HK3 HKT
              go_wp2_with (go_at_call 59; go_must (refine (isNum_any _ _).mono ?_; rintro e w' ⟨rfl, rfl⟩))
              obtain ⟨kc, kf⟩ := kgrown (wr.alloc (.cells #[.int .i64 s, .int .i64 c] 24))
              refine wp_region_quiet_below (by kernel_rfl) (by kernel_rfl) ?_
              repeat (go_big_quiet_step ((go_at_call 60; exact Calls.regrown_of (HFO.out _))))
              refine wpQuiet_nil ?_
              intro _ hw'
              obtain ⟨⟨dq, osq⟩, hw''⟩ := hw'
              subst hw''
              go_wp2
              go_roundw
              case rel => exact ⟨m + 1 + 1, by omega, by go_num, HQ, (HR.out.alloc HR.out.size _).trans ((below_regrown _ _ _).mono (by have := HR.out.size; simp; omega))⟩
              case measure => simp [intOf]; omega
    · obtain rfl : j = l.length := by omega
      have hAr := HA.out.below hR
      have HE := Lib.hid (fun W hb => end_any l b off cap l.length W (Ars.below hAr (w' := W) hb) hcap (Nat.le_refl _) h8 (Wh.alls_cnt hal.out))
      have bE := (Wh.ends_bd h8 (Wh.alls_cnt hal.out) l.length (Nat.le_refl _))
      have bL := Wh.lsp_bd h1 hal.out
      have HL := Lib.hid (fun W hb => lastSpan_any l b off cap W (Ars.below hAr (w' := W) hb) h1 h8 (IntWalk.i64_in _ (by omega)))
      have HX : Hid (1048576 < Wh.ends l l.length → Wh.av l = false) := Lib.hid Wh.av_big
      have HY : Hid (Wh.ends l l.length ≤ 1048576 → Wh.av l = decide (Wh.lsp l ≤ 4294967295)) := Lib.hid (Wh.av_end h1 h8 hal.out)
      clear HF HA H1 H2 H3 HT HB hal hAr
      generalize Wh.ends l l.length = en at *
      generalize Wh.lsp l = ls at *
      by_cases g1 : en ≤ 1048576
      · have HQ := Lib.hid (HY.out g1)
        go_wp2_with first | (go_at_call 31; (((with_reducible refine (HE.out _ (Below.refl _ _)).mono ?_)); rintro e w1 ⟨rfl, hb1⟩; obtain ⟨hc1, hf1⟩ := bcell hb1; (try have hq1wr : wr.heap.size < w1.heap.size := Nat.lt_of_lt_of_le (by first | assumption | (simp; done) | (simp; omega)) hb1.size); have hs1 := hb1.size; (try simp at hs1))) | (go_at_call 25; (((with_reducible refine (HL.out _ hb1).mono ?_)); rintro e w2 ⟨rfl, hb2⟩; obtain ⟨hc2, hf2⟩ := bcell hb2; (try have hq2wr : wr.heap.size < w2.heap.size := Nat.lt_of_lt_of_le (by first | assumption | (simp; done) | (simp; omega)) hb2.size); have hs2 := hb2.size; (try simp at hs2)))
        go_ret
        exact ⟨by rw [HQ.out]; rfl, hR.trans ((hb1.trans (hb2.mono hb1.size)).mono hR.size)⟩
      · have HQ := Lib.hid (HX.out (by omega))
        go_wp2_with first | (go_at_call 31; go_must (refine (HE.out _ (Below.refl _ _)).mono ?_; rintro e w' ⟨rfl, hb⟩; obtain ⟨hc, hf⟩ := bcell hb; (try have hz0 : w.heap.size < w'.heap.size := Nat.lt_of_lt_of_le (by first | assumption | (simp; done) | (simp; omega)) hb.size); (try have hz1 : w.heap.size + 1 < w'.heap.size := Nat.lt_of_lt_of_le (by first | assumption | (simp; done) | (simp; omega)) hb.size); (try have hz2 : w.heap.size + 1 + 1 < w'.heap.size := Nat.lt_of_lt_of_le (by first | assumption | (simp; done) | (simp; omega)) hb.size); have hz := hb.size; (try simp at hz))) | (go_at_call 25; go_must (refine (HL.out _ hb).mono ?_; rintro e w' ⟨rfl, hb⟩; obtain ⟨hc, hf⟩ := bcell hb; (try have hz0 : w.heap.size < w'.heap.size := Nat.lt_of_lt_of_le (by first | assumption | (simp; done) | (simp; omega)) hb.size); (try have hz1 : w.heap.size + 1 < w'.heap.size := Nat.lt_of_lt_of_le (by first | assumption | (simp; done) | (simp; omega)) hb.size); (try have hz2 : w.heap.size + 1 + 1 < w'.heap.size := Nat.lt_of_lt_of_le (by first | assumption | (simp; done) | (simp; omega)) hb.size); have hz := hb.size; (try simp at hz)))
        go_ret
        exact ⟨by rw [HQ.out]; rfl, hR.trans (hb.mono hR.size)⟩

/-- A header's own row of archives, empty ones let in. -/
def Row (w : World) (A : Option Addr) (l : List (Int × Int)) (cap : Nat) : Prop := l.length ≤ cap ∧ (0 < l.length → ∃ b off, A = some ⟨b, off, none⟩ ∧ Ars w b off l)
theorem Row.below {w w' : World} {A : Option Addr} {l : List (Int × Int)} {cap : Nat} (h : Row w A l cap) (hb : Below w.heap.size w w') : Row w' A l cap :=
  ⟨h.1, fun h0 => by obtain ⟨b, off, e, hA⟩ := h.2 h0; exact ⟨b, off, e, hA.below hb⟩⟩

theorem areValid_any (l : List (Int × Int)) (A : Option Addr) (cap : Nat) (w : World) (h : Row w A l cap) :
    Calls Tryd.prog 48 #[.slice A l.length cap] w fun e w' => e = .returned (.bool (Wh.av l)) ∧ Below w.heap.size w w' := by
  by_cases h0 : l.length = 0
  · rw [Wh.av_nil h0, h0]; exact areValid_nil A cap w
  · by_cases h8 : 8 < l.length
    · rw [Wh.av_long h8]; exact areValid_long A _ cap h8 w
    · obtain ⟨b, off, rfl, hA⟩ := h.2 (by omega)
      exact areValid_some l b off cap w hA h.1 (by omega) (by omega)
end Go.Proofs.YtbakngbmfgnmcaaDoor

namespace Go.Proofs.YtbakngbmfgnmcaaDoor
open Go.RowKit Go.Sort
open Me

theorem info_parts {P : Program} {e : TypeId} {z : Value} {a b : Nat} (h : (P.info? e).map (fun i => (i.zero, i.size, i.bytes)) = some (some z, a, b)) : ∃ i, P.info? e = some i ∧ i.zero = some z ∧ i.size = a ∧ i.bytes = b := by
  cases hi : P.info? e with
  | none => rw [hi] at h; cases h
  | some i => rw [hi] at h; simp at h; exact ⟨i, rfl, h.1, h.2.1, h.2.2⟩

namespace Wh
def four (n : Int) : List UInt8 := [UInt8.ofNat ((n / 16777216) % 256).toNat, UInt8.ofNat ((n / 65536) % 256).toNat, UInt8.ofNat ((n / 256) % 256).toNat, UInt8.ofNat (n % 256).toNat]
def fours (ns : List Int) : List UInt8 := ns.flatMap four
theorem fours_len (ns : List Int) : (fours ns).length = 4 * ns.length := by
  induction ns with
  | nil => rfl
  | cons n ns ih => unfold fours at *; simp [List.flatMap_cons, four, ih]; omega
theorem fours_take (ns : List Int) (k : Nat) (h : k < ns.length) : fours (ns.take (k + 1)) = fours (ns.take k) ++ four ns[k] := by
  unfold fours
  rw [List.take_succ_eq_append_getElem h, List.flatMap_append]
  simp
theorem u8of (x : Int) : ((UInt8.ofNat (x % 256).toNat).toNat : Int) = x % 256 := by
  have h1 := Int.emod_nonneg x (by omega : (256 : Int) ≠ 0)
  have h2 := Int.emod_lt_of_pos x (by omega : (0 : Int) < 256)
  rw [UInt8.toNat_ofNat', Nat.mod_eq_of_lt (by omega)]
  omega
theorem by8_four (n : Int) : by8 (four n) = [.int .u8 ((n / 16777216) % 256), .int .u8 ((n / 65536) % 256), .int .u8 ((n / 256) % 256), .int .u8 (n % 256)] := by
  unfold by8 four
  simp only [List.map_cons, List.map_nil, u8of]
end Wh

def OwnB (base : Nat) (w : World) (v : Value) (l : List UInt8) : Prop := w.ownsRow base 5 1 v l.length (by8 l)
/-- What an append leaves. -/
def Laid (base : Nat) (w : World) (v : Value) (l : List UInt8) (e : Ending) (w' : World) : Prop :=
  ∃ v', e = .returned v' ∧ OwnB base w' v' l ∧ Kp (fun b => v.ownBlock = some b) w w' ∧ (∀ g, v'.ownBlock = some g → v.ownBlock = some g ∨ w.heap.size ≤ g)

theorem own_lt {base : Nat} {w : World} {v : Value} {l : List UInt8} (h : OwnB base w v l) : ∀ g, v.ownBlock = some g → base ≤ g ∧ g < w.heap.size := by
  intro g hg
  rcases h.2 with ⟨rfl, _⟩ | ⟨g', cap, cur, rfl, hb, hh, _⟩
  · cases hg
  · have : g' = g := by simpa [Value.ownBlock] using hg
    subst this
    exact ⟨hb, (Array.getElem?_eq_some_iff.1 hh).1⟩

theorem by8_four4 {n : Int} (h1 : 0 ≤ n) (h2 : n ≤ 4294967295) : by8 (Wh.four n) = [.int .u8 (n / 16777216), .int .u8 ((n / 65536) % 256), .int .u8 ((n / 256) % 256), .int .u8 (n % 256)] := by
  rw [Wh.by8_four]
  have : n / 16777216 % 256 = n / 16777216 := Int.emod_eq_of_lt (by omega) (by omega)
  rw [this]
theorem own_more {base : Nat} {w : World} {v : Value} {X Y : List UInt8} {m : Nat} (hm : Y.length = m) (h : w.ownsRow base 5 1 v (X.length + m) (by8 X ++ by8 Y)) : OwnB base w v (X ++ Y) := by
  unfold OwnB
  rw [List.length_append, by8_append, hm]
  exact h

theorem OwnB.base {a b : Nat} {w : World} {v : Value} {l : List UInt8} (h : OwnB b w v l) (hab : a ≤ b) : OwnB a w v l := by
  refine ⟨h.1, ?_⟩
  rcases h.2 with hn | ⟨g, cap, cur, hv, hb, rest⟩
  · exact .inl hn
  · exact .inr ⟨g, cap, cur, hv, by omega, rest⟩
theorem OwnB.nil (a : Nat) (w : World) : OwnB a w (.slice none 0 0) [] := ⟨rfl, .inl ⟨rfl, rfl⟩⟩
theorem OwnB.kp {a : Nat} {w w' : World} {v : Value} {l : List UInt8} {O : Nat → Prop} (h : OwnB a w v l) (k : Kp O w w') (hO : ∀ g, v.ownBlock = some g → ¬ O g) : OwnB a w' v l :=
  owns_keep h fun g hg => k.block g (own_lt h g hg).2 (hO g hg)
theorem OwnB.below {a : Nat} {w w' : World} {v : Value} {l : List UInt8} (h : OwnB a w v l) (k : Below w.heap.size w w') : OwnB a w' v l :=
  owns_keep h fun g hg => k.block g (own_lt h g hg).2

/-- A slice of bytes in some world, as a list: what a conversion to a string hands back. -/
def Reads (w : World) (v : Value) (l : List UInt8) : Prop := ∃ A c, v = .slice A l.length c ∧ l.length ≤ c ∧ Rd w (fun _ => True) A (by8 l)
theorem Reads.keep {w w' : World} {v : Value} {l : List UInt8} (h : Reads w v l) (hs : w.heap.size ≤ w'.heap.size) (hk : ∀ i, i < w.heap.size → w'.heap[i]? = w.heap[i]?) : Reads w' v l := by
  obtain ⟨A, c, e, hc, hr⟩ := h
  exact ⟨A, c, e, hc, hr.keep hs fun i hi _ => hk i hi⟩
theorem Reads.below {w w' : World} {v : Value} {l : List UInt8} (h : Reads w v l) (b : Below w.heap.size w w') : Reads w' v l := h.keep b.size fun i hi => b.block i hi
theorem Reads.drewN {w : World} {v : Value} {l : List UInt8} (h : Reads w v l) (n : Nat) : Reads (w.drewN n) v l := h
theorem Reads.conv {w : World} {v : Value} {l : List UInt8} (h : Reads w v l) : (convert 52 9 v).run Tryd.prog w = .ok (.string ⟨l.toArray⟩) w := by
  obtain ⟨A, c, rfl, _, hr⟩ := h
  by_cases hl : l = []
  · subst hl
    cases A with
    | none => exact Lib.run_convert_nil_bytes w _ _ 5 c Tryd.underlying52 Tryd.underlying5 Tryd.underlying9
    | some a => exact run_convert_bytes_back w _ _ 5 a c [] Tryd.underlying52 Tryd.underlying5 Tryd.underlying9 fun j hj => by cases hj
  · obtain ⟨ad, rfl, _, _, hc⟩ := hr (by intro e; apply hl; have := by8_len l; rw [e] at this; exact List.eq_nil_of_length_eq_zero this.symm)
    exact run_convert_bytes_back w _ _ 5 ad c l Tryd.underlying52 Tryd.underlying5 Tryd.underlying9 fun j hj => hc j _ (by8_get l j hj)
theorem Reads.own {w : World} {base : Nat} {v : Value} {l : List UInt8} (h : OwnB base w v l) : Reads w v l := by
  obtain ⟨A, c, e, hc, _, hr⟩ := Bs.own h
  exact ⟨A, c, e, hc, hr.mono fun _ _ _ => trivial⟩
theorem Reads.take {w : World} {A : Option Addr} {l : List UInt8} {c n : Nat} (h : Reads w (.slice A l.length c) l) (hn : n ≤ l.length) : Reads w (.slice A n c) (l.take n) := by
  obtain ⟨A', c', e, hc, hr⟩ := h
  injection e with e1 e2 e3
  subst e1 e3
  refine ⟨A, c, by rw [List.length_take, Nat.min_eq_left hn], by rw [List.length_take]; omega, fun hne => ?_⟩
  obtain ⟨ad, e, h1, h2, h3⟩ := hr (by rintro e; apply hne; unfold by8 at *; rw [List.map_eq_nil_iff] at e; rw [e]; simp)
  refine ⟨ad, e, h1, h2, fun j u hu => h3 j u ?_⟩
  unfold by8 at hu ⊢
  rw [List.map_take, List.getElem?_take] at hu
  split at hu
  · exact hu
  · cases hu

namespace Wh
def byt (L : List UInt8) (i : Nat) : Nat := (L.getD i 0).toNat
def nm (L : List UInt8) (i : Nat) : Int := (byt L i : Int) * 16777216 + byt L (i + 1) * 65536 + byt L (i + 2) * 256 + byt L (i + 3)
theorem by_lt (L : List UInt8) (i : Nat) : byt L i < 256 := UInt8.toNat_lt _
theorem nm_bd (L : List UInt8) (i : Nat) : 0 ≤ nm L i ∧ nm L i ≤ 4294967295 := by
  have := by_lt L i
  have := by_lt L (i + 1)
  have := by_lt L (i + 2)
  have := by_lt L (i + 3)
  unfold nm
  omega
theorem wraps_i64 (n : Int) (h₀ : 0 ≤ n) (h₁ : n < 2 ^ 63) : IntKind.i64.wrap n = n := by rw [IntKind.wrap_i64]; omega
theorem join (i : Nat) (x y : Int) (hx₀ : 0 ≤ x) (hx : x % 2 ^ i = 0) (hx₁ : x < 2 ^ 63) (hy₀ : 0 ≤ y) (hy : y < 2 ^ i) (hy₁ : y < 2 ^ 63) : bits .or .i64 x y = x + y :=
  bits_join .i64 63 (by decide) wraps_i64 i x y hx₀ hx hx₁ hy₀ hy hy₁
theorem join4 (c0 c1 c2 c3 : Nat) (k0 : c0 < 256) (k1 : c1 < 256) (k2 : c2 < 256) (k3 : c3 < 256) :
    bits .or .i64 (bits .or .i64 (bits .or .i64 ((c0 : Int) * 16777216) ((c1 : Int) * 65536)) ((c2 : Int) * 256)) (c3 : Int) = (c0 : Int) * 16777216 + c1 * 65536 + c2 * 256 + c3 := by
  rw [join 24 ((c0 : Int) * 16777216) ((c1 : Int) * 65536) (by omega) (by omega) (by omega) (by omega) (by omega) (by omega),
    join 16 ((c0 : Int) * 16777216 + (c1 : Int) * 65536) ((c2 : Int) * 256) (by omega) (by omega) (by omega) (by omega) (by omega) (by omega),
    join 8 ((c0 : Int) * 16777216 + (c1 : Int) * 65536 + (c2 : Int) * 256) (c3 : Int) (by omega) (by omega) (by omega) (by omega) (by omega) (by omega)]
end Wh

/-- Bytes that lie at an address. -/
structure By (w : World) (b off : Nat) (L : List UInt8) : Prop where
  lt : b < w.heap.size
  at_ : ∀ j, j < L.length → w.cell? ⟨b, off + j, none⟩ = some (.int .u8 (Wh.byt L j : Int))
theorem By.below {w w' : World} {b off : Nat} {L : List UInt8} (h : By w b off L) (hb : Below w.heap.size w w') : By w' b off L :=
  ⟨Nat.lt_of_lt_of_le h.lt hb.size, fun j hj => (hb.cell (p := ⟨b, off + j, none⟩) h.lt).trans (h.at_ j hj)⟩



/-- A block that is known whole. -/
def RowAt (w : World) (g : Nat) (t : TypeId) (cs : Array Value) : Prop := w.heap[g]? = some (.cells cs t (0, 0))
section
variable {w w' : World} {g : Nat} {t : TypeId} {cs : Array Value}
theorem RowAt.lt (h : RowAt w g t cs) : g < w.heap.size := (Array.getElem?_eq_some_iff.1 h).1
theorem RowAt.cell (h : RowAt w g t cs) (i : Nat) : w.cell? ⟨g, i, none⟩ = cs[i]? := cell_of_row w g i cs t (0, 0) h
theorem RowAt.frozen (h : RowAt w g t cs) (i : Nat) : w.frozen? ⟨g, i, none⟩ = false := by
  unfold RowAt at h
  simp [World.frozen?, h]
theorem RowAt.set_ (h : RowAt w g t cs) (i : Nat) (u : Value) : RowAt (w.setCell ⟨g, i, none⟩ u) g t (cs.setIfInBounds i u) := by
  unfold RowAt at h ⊢
  simp [World.setCell, Array.getElem?_modify, h]
theorem RowAt.far (h : RowAt w g t cs) {p : Addr} (hp : g ≠ p.block) (u : Value) : RowAt (w.setCell p u) g t cs := (Below.heap_setCell w p u g hp).trans h
theorem RowAt.below (h : RowAt w g t cs) {B : Nat} (hb : Below B w w') (hg : g < B) : RowAt w' g t cs := (hb.block g hg).trans h
theorem RowAt.alloc (h : RowAt w g t cs) (o : Obj) : RowAt (w.alloc o) g t cs := (Below.heap_alloc w o g h.lt).trans h
theorem RowAt.new (w : World) (cs : Array Value) (t : TypeId) : RowAt (w.alloc (.cells cs t)) w.heap.size t cs := heap_alloc_new w _
theorem RowAt.drewN (h : RowAt w g t cs) (n : Nat) : RowAt (w.drewN n) g t cs := h
theorem RowAt.drew (h : RowAt w g t cs) : RowAt w.drew g t cs := h
end

end Go.Proofs.YtbakngbmfgnmcaaDoor

namespace Go.Proofs.YtbakngbmfgnmcaaDoor
open Go.RowKit Go.Sort
open Me

set_option maxHeartbeats 1000000 in
theorem wput_any (base : Nat) (L : List UInt8) (v : Value) (ns : List Int) (A : Option Addr) (c : Nat) (G : Nat → Prop) (w : World) (hown : OwnB base w v L) (hrd : Rd w G A (ns.map fun n => .int .i64 n)) (hG : ∀ g, v.ownBlock = some g → ¬ G g)
    (hb : ∀ n ∈ ns, 0 ≤ n ∧ n ≤ 4294967295) (hbase : base ≤ w.heap.size) (hL : L.length ≤ 1048576) (hn : ns.length ≤ 1048576) :
    Calls Tryd.prog 24 #[v, .slice A ns.length c] w (Laid base w v (L ++ Wh.fours ns)) := by
  obtain ⟨j0, hj0, hy0, hy1, hy2⟩ := info_parts u8info
  have HJ := Lib.hid hj0
  have HY := Lib.hid (And.intro hy0 (And.intro hy1 hy2))
  clear hj0 hy0 hy1 hy2
  have HR := Lib.hid hrd
  have HG := Lib.hid hG
  have HB := Lib.hid hb
  obtain ⟨A0, n0, c0, rfl⟩ := own_slice hown
  have HO := Lib.hid hown
  have hn2 : (ns.length : Int) ≤ 1048576 := by omega
  clear hown hrd hG hb
  go_enter Tryd.func24, Tryd.ntmps24
  go_wp2_with fail
  go_loopw [0, 9] (fun u i wr => ∃ (k : Nat) (A' : Option Addr) (n' c' : Nat), k ≤ ns.length ∧ i = .int .i64 k ∧ u = .slice A' n' c' ∧ Hid (OwnB base wr u (L ++ Wh.fours (ns.take k))) ∧ Kp (fun b => (Value.slice A0 n0 c0).ownBlock = some b) w wr ∧ Hid (∀ g, u.ownBlock = some g → (Value.slice A0 n0 c0).ownBlock = some g ∨ w.heap.size ≤ g)) (fun _ i _ => ns.length - (intOf i).toNat)
  case atStart => exact ⟨0, _, _, _, Nat.zero_le _, rfl, rfl, Lib.hid (by simpa [Wh.fours] using HO.out), Kp.refl _ _, Lib.hid fun g h => .inl h⟩
  case round =>
    obtain ⟨k, A', n', c', hk, rfl, rfl, ho, hkp, hfr⟩ := hrel
    by_cases hlt : k < ns.length
    · have hR := HR.out.kp hkp (fun i _ hi he => HG.out i he hi)
      obtain ⟨rb, ro, rfl, hlt2, hg, hcell⟩ := hR.lit k (by simp; omega)
      have hcl := hcell k (.int .i64 ns[k]) (by simp [hlt])
      obtain ⟨b1, b2⟩ := HB.out ns[k] (List.getElem_mem hlt)
      have HF := Lib.hid (Wh.fours_take ns k hlt)
      have hXl : (L ++ Wh.fours (ns.take k)).length ≤ 5242880 := by rw [List.length_append, Wh.fours_len, List.length_take]; omega
      have hksz := hkp.size
      have HKP := Lib.hid hkp
      have HRF : Hid (Rd (wr.alloc (.cells #[.int .u8 (ns[k] / 16777216), .int .u8 ((ns[k] / 65536) % 256), .int .u8 ((ns[k] / 256) % 256), .int .u8 (ns[k] % 256)] 5)) (fun b => b = wr.heap.size) (some ⟨wr.heap.size, 0, none⟩) (by8 (Wh.four ns[k]))) := Lib.hid (by
        rw [by8_four4 b1 b2]; exact Rd.fresh wr [_, _, _, _] _ _ rfl)
      have hfl : (Wh.four ns[k]).length = 4 := rfl
      have HOW : Hid ((wr.alloc (.cells #[.int .u8 (ns[k] / 16777216), .int .u8 ((ns[k] / 65536) % 256), .int .u8 ((ns[k] / 256) % 256), .int .u8 (ns[k] % 256)] 5)).ownsRow base 5 1 (.slice A' n' c') (L ++ Wh.fours (ns.take k)).length (by8 (L ++ Wh.fours (ns.take k)))) := Lib.hid (owns_keep ho.out fun g hg => Below.heap_alloc _ _ _ (own_lt ho.out g hg).2)
      clear hR hcell hkp
      generalize ns[k] = n at *
      have HFL := Lib.hid hfl
      clear hfl
      generalize hX : L ++ Wh.fours (ns.take k) = X at *
      have HX := Lib.hid hX
      clear hX
      go_wp2_with (at_builtin; refine wpList_app _ rfl (.tmp 13) (.tmp 25) 52 rfl base 5 j0 (.int .u8 0) 1 1 Tryd.underlying52 HJ.out HY.out.1 HY.out.2.1 HY.out.2.2 rfl (by decide) (.slice A' n' c') X.length (by8 X) rfl HOW.out (fun b => b = wr.heap.size) (some ⟨wr.heap.size, 0, none⟩) 4 4 (by8 (Wh.four n)) rfl (by rw [by8_len, HFL.out]) HRF.out (by8_one _) (by unfold maxLen; omega) (by omega) (by simp; omega) ?_; intro v1 w1 hown1 hg1 hat1 hnil1)
      obtain ⟨A1, n1, c1, rfl⟩ := own_slice hown1
      have HO1 := Lib.hid (own_more HFL.out hown1)
      have HG1 := Lib.hid hg1
      have HAT := Lib.hid hat1
      clear hown1 hg1 hat1 hnil1
      go_wp2_with fail
      go_roundw
      case rel =>
        refine ⟨k + 1, _, _, _, by omega, by go_num, rfl, Lib.hid (by rw [HF.out, ← List.append_assoc, HX.out]; exact HO1.out), (HKP.out.alloc _).grown HG1.out (fun g hg => (hfr.out g hg).symm), Lib.hid fun g hg => ?_⟩
        rcases HAT.out with h | h
        · exact hfr.out g (h ▸ hg)
        · rw [h] at hg
          simp at hg
          exact .inr (by omega)
      case measure => simp [intOf]; omega
    · obtain rfl : k = ns.length := by omega
      rw [List.take_length] at ho
      go_wp2_with fail
      go_ret
      exact ⟨_, rfl, ho.out, hkp, hfr.out⟩
end Go.Proofs.YtbakngbmfgnmcaaDoor

namespace Go.Proofs.YtbakngbmfgnmcaaDoor
open Go.RowKit Go.Sort
open Wh (At)

namespace Wh
def size (ag xf : Int) (l : List (Int × Int)) : Int := if val ag xf l = true then ends l l.length else 0
def spn (ag xf : Int) (l : List (Int × Int)) : Int := if val ag xf l = true then lsp l else 0
def offs (ag xf : Int) (l : List (Int × Int)) (i : Int) : Int := if val ag xf l = true ∧ 0 ≤ i ∧ i < (l.length : Int) then ends l i.toNat else 0
end Wh

set_option maxHeartbeats 1000000 in
theorem isValid_any (ag xf : Int) (l : List (Int × Int)) (A : Option Addr) (cap : Nat) (w : World) (h : Row w A l cap) :
    Calls Tryd.prog 22 #[.agg #[.int .i64 ag, .int .i64 xf, .slice A l.length cap]] w fun e w' => e = .returned (.bool (Wh.val ag xf l)) ∧ Below w.heap.size w w' := by
  have HV : Hid (∀ W, Below w.heap.size w W → Calls Tryd.prog 48 #[.slice A l.length cap] W fun e w' => e = .returned (.bool (Wh.av l)) ∧ Below W.heap.size W w') := Lib.hid fun W hb => areValid_any l A cap W (h.below hb)
  have HX : Hid (ag < 1 ∨ 5 < ag ∨ xf < 0 ∨ 1000000 < xf ∨ Wh.av l = false → Wh.val ag xf l = false) := Lib.hid Wh.val_head
  have HK := Lib.hid (isKind_any ag)
  clear h
  cases k1 : Wh.kind ag
  · have HQ : Hid (Wh.val ag xf l = false) := Lib.hid (by unfold Wh.val; rw [k1]; rfl)
    go_enter Tryd.func22, Tryd.ntmps22
    go_wp2_with (go_at_call 47; go_must (refine (HK.out _).mono ?_; rintro e w' ⟨rfl, rfl⟩))
    go_ret
    exact ⟨by rw [HQ.out]; rfl, (by repeat (first | exact Below.refl _ _ | assumption | refine Below.setCell ?_ (by first | (simp; done) | omega | (simp; omega) | (simp at *; omega)) _ | refine Below.alloc ?_ (by first | (simp; done) | omega | (simp; omega) | (simp at *; omega)) _ | refine Below.drew ?_ | (refine Below.trans ?_ (Below.mono (by assumption) (by first | (simp; done) | omega | (simp; omega) | (simp at *; omega)))) | (refine Below.trans ?_ (Below.mono (below_regrown _ _ _) (by first | (simp; done) | omega | (simp; omega) | (simp at *; omega))))))⟩
  · obtain ⟨g1, g2⟩ := Wh.kind_bd k1
    by_cases x1 : 0 ≤ xf
    · by_cases x2 : xf ≤ 1000000
      · have HQ := Lib.hid (Wh.val_av (l := l) g1 g2 x1 x2)
        generalize Wh.av l = av at *
        go_enter Tryd.func22, Tryd.ntmps22
        go_wp2_with first | (go_at_call 47; go_must (refine (HK.out _).mono ?_; rintro e w' ⟨rfl, rfl⟩)) | (go_at_call 48; go_must (refine (HV.out _ ((Below.refl _ _).alloc (Nat.le_refl _) _)).mono ?_; rintro e w' ⟨rfl, hb⟩; obtain ⟨hc, hf⟩ := bcell hb; (try have hz0 : w.heap.size < w'.heap.size := Nat.lt_of_lt_of_le (by first | assumption | (simp; done) | (simp; omega)) hb.size); (try have hz1 : w.heap.size + 1 < w'.heap.size := Nat.lt_of_lt_of_le (by first | assumption | (simp; done) | (simp; omega)) hb.size); (try have hz2 : w.heap.size + 1 + 1 < w'.heap.size := Nat.lt_of_lt_of_le (by first | assumption | (simp; done) | (simp; omega)) hb.size); have hz := hb.size; (try simp at hz)))
        go_ret
        exact ⟨by rw [HQ.out]; rfl, (by repeat (first | exact Below.refl _ _ | assumption | refine Below.setCell ?_ (by first | (simp; done) | omega | (simp; omega) | (simp at *; omega)) _ | refine Below.alloc ?_ (by first | (simp; done) | omega | (simp; omega) | (simp at *; omega)) _ | refine Below.drew ?_ | (refine Below.trans ?_ (Below.mono (by assumption) (by first | (simp; done) | omega | (simp; omega) | (simp at *; omega)))) | (refine Below.trans ?_ (Below.mono (below_regrown _ _ _) (by first | (simp; done) | omega | (simp; omega) | (simp at *; omega))))))⟩
      · have HQ := Lib.hid (HX.out (.inr (.inr (.inr (.inl (by omega))))))
        go_enter Tryd.func22, Tryd.ntmps22
        go_wp2_with (go_at_call 47; go_must (refine (HK.out _).mono ?_; rintro e w' ⟨rfl, rfl⟩))
        go_ret
        exact ⟨by rw [HQ.out]; rfl, (by repeat (first | exact Below.refl _ _ | assumption | refine Below.setCell ?_ (by first | (simp; done) | omega | (simp; omega) | (simp at *; omega)) _ | refine Below.alloc ?_ (by first | (simp; done) | omega | (simp; omega) | (simp at *; omega)) _ | refine Below.drew ?_ | (refine Below.trans ?_ (Below.mono (by assumption) (by first | (simp; done) | omega | (simp; omega) | (simp at *; omega)))) | (refine Below.trans ?_ (Below.mono (below_regrown _ _ _) (by first | (simp; done) | omega | (simp; omega) | (simp at *; omega))))))⟩
    · have HQ := Lib.hid (HX.out (.inr (.inr (.inl (by omega)))))
      go_enter Tryd.func22, Tryd.ntmps22
      go_wp2_with (go_at_call 47; go_must (refine (HK.out _).mono ?_; rintro e w' ⟨rfl, rfl⟩))
      go_ret
      exact ⟨by rw [HQ.out]; rfl, (by repeat (first | exact Below.refl _ _ | assumption | refine Below.setCell ?_ (by first | (simp; done) | omega | (simp; omega) | (simp at *; omega)) _ | refine Below.alloc ?_ (by first | (simp; done) | omega | (simp; omega) | (simp at *; omega)) _ | refine Below.drew ?_ | (refine Below.trans ?_ (Below.mono (by assumption) (by first | (simp; done) | omega | (simp; omega) | (simp at *; omega)))) | (refine Below.trans ?_ (Below.mono (below_regrown _ _ _) (by first | (simp; done) | omega | (simp; omega) | (simp at *; omega))))))⟩

/-- A valid header's parts. -/
theorem row_val {w : World} {A : Option Addr} {l : List (Int × Int)} {cap : Nat} {ag xf : Int} (h : Row w A l cap) (hv : Wh.val ag xf l = true) :
    ∃ b off, A = some ⟨b, off, none⟩ ∧ Ars w b off l ∧ l.length ≤ cap ∧ 1 ≤ l.length ∧ l.length ≤ 8 ∧ Wh.alls l l.length = true ∧ Wh.ends l l.length ≤ 1048576 ∧ 1 ≤ Wh.lsp l ∧ Wh.lsp l ≤ 4294967295 := by
  obtain ⟨_, _, _, ha⟩ := Wh.val_t hv
  obtain ⟨a1, a2, a3, a4, a5⟩ := Wh.av_t ha
  obtain ⟨b, off, e, hA⟩ := h.2 a1
  exact ⟨b, off, e, hA, h.1, a1, a2, a3, a4, (Wh.lsp_bd a1 a3).1, a5⟩

set_option maxHeartbeats 1000000 in
theorem wsize_any (ag xf : Int) (l : List (Int × Int)) (A : Option Addr) (cap : Nat) (w : World) (h : Row w A l cap) :
    Calls Tryd.prog 11 #[.agg #[.int .i64 ag, .int .i64 xf, .slice A l.length cap]] w fun e w' => e = .returned (.int .i64 (Wh.size ag xf l)) ∧ Below w.heap.size w w' := by
  have HV : Hid (∀ W, Below w.heap.size w W → Calls Tryd.prog 22 #[.agg #[.int .i64 ag, .int .i64 xf, .slice A l.length cap]] W fun e w' => e = .returned (.bool (Wh.val ag xf l)) ∧ Below W.heap.size W w') := Lib.hid fun W hb => isValid_any ag xf l A cap W (h.below hb)
  cases hv : Wh.val ag xf l
  · rw [hv] at HV
    have HQ : Hid (Wh.size ag xf l = 0) := Lib.hid (by unfold Wh.size; rw [hv]; rfl)
    clear hv h
    go_enter Tryd.func11, Tryd.ntmps11
    go_wp2_with (go_at_call 22; go_must (refine (HV.out _ ((Below.refl _ _).alloc (Nat.le_refl _) _)).mono ?_; rintro e w' ⟨rfl, hb⟩; obtain ⟨hc, hf⟩ := bcell hb; (try have hz0 : w.heap.size < w'.heap.size := Nat.lt_of_lt_of_le (by first | assumption | (simp; done) | (simp; omega)) hb.size); (try have hz1 : w.heap.size + 1 < w'.heap.size := Nat.lt_of_lt_of_le (by first | assumption | (simp; done) | (simp; omega)) hb.size); (try have hz2 : w.heap.size + 1 + 1 < w'.heap.size := Nat.lt_of_lt_of_le (by first | assumption | (simp; done) | (simp; omega)) hb.size); have hz := hb.size; (try simp at hz)))
    go_ret
    exact ⟨by rw [HQ.out]; rfl, (by repeat (first | exact Below.refl _ _ | assumption | refine Below.setCell ?_ (by first | (simp; done) | omega | (simp; omega) | (simp at *; omega)) _ | refine Below.alloc ?_ (by first | (simp; done) | omega | (simp; omega) | (simp at *; omega)) _ | refine Below.drew ?_ | (refine Below.trans ?_ (Below.mono (by assumption) (by first | (simp; done) | omega | (simp; omega) | (simp at *; omega)))) | (refine Below.trans ?_ (Below.mono (below_regrown _ _ _) (by first | (simp; done) | omega | (simp; omega) | (simp at *; omega))))))⟩
  · rw [hv] at HV
    have HQ : Hid (Wh.size ag xf l = Wh.ends l l.length) := Lib.hid (by unfold Wh.size; rw [hv]; rfl)
    obtain ⟨b, off, rfl, hA, hcap, a1, a2, a3, a4, _⟩ := row_val h hv
    have HE : Hid (∀ W, Below w.heap.size w W → Calls Tryd.prog 31 #[.slice (some ⟨b, off, none⟩) l.length cap, .int .i64 l.length] W fun e w' => e = .returned (.int .i64 (Wh.ends l l.length)) ∧ Below W.heap.size W w') :=
      Lib.hid fun W hb => end_any l b off cap l.length W (hA.below hb) hcap (Nat.le_refl _) a2 (Wh.alls_cnt a3)
    clear hv h hA a3 a4
    generalize Wh.ends l l.length = en at *
    go_enter Tryd.func11, Tryd.ntmps11
    go_wp2_with first | (go_at_call 22; (((with_reducible refine (HV.out _ ((Below.refl _ _).alloc (Nat.le_refl _) _)).mono ?_)); rintro e w1 ⟨rfl, hb1⟩; obtain ⟨hc1, hf1⟩ := bcell hb1; (try have hq1w : w.heap.size < w1.heap.size := Nat.lt_of_lt_of_le (by first | assumption | (simp; done) | (simp; omega)) hb1.size); have hs1 := hb1.size; (try simp at hs1))) | (go_at_call 31; (((with_reducible refine (HE.out _ (((Below.refl _ _).alloc (Nat.le_refl _) _).trans (hb1.mono (by simp)))).mono ?_)); rintro e w2 ⟨rfl, hb2⟩; obtain ⟨hc2, hf2⟩ := bcell hb2; (try have hq2w : w.heap.size < w2.heap.size := Nat.lt_of_lt_of_le (by first | assumption | (simp; done) | (simp; omega)) hb2.size); have hs2 := hb2.size; (try simp at hs2)))
    go_ret
    exact ⟨by rw [HQ.out]; rfl, (by repeat (first | exact Below.refl _ _ | assumption | refine Below.setCell ?_ (by first | (simp; done) | omega | (simp; omega) | (simp at *; omega)) _ | refine Below.alloc ?_ (by first | (simp; done) | omega | (simp; omega) | (simp at *; omega)) _ | refine Below.drew ?_ | (refine Below.trans ?_ (Below.mono (by assumption) (by first | (simp; done) | omega | (simp; omega) | (simp at *; omega)))) | (refine Below.trans ?_ (Below.mono (below_regrown _ _ _) (by first | (simp; done) | omega | (simp; omega) | (simp at *; omega))))))⟩

set_option maxHeartbeats 1000000 in
theorem spn_any (ag xf : Int) (l : List (Int × Int)) (A : Option Addr) (cap : Nat) (w : World) (h : Row w A l cap) :
    Calls Tryd.prog 16 #[.agg #[.int .i64 ag, .int .i64 xf, .slice A l.length cap]] w fun e w' => e = .returned (.int .i64 (Wh.spn ag xf l)) ∧ Below w.heap.size w w' := by
  have HV : Hid (∀ W, Below w.heap.size w W → Calls Tryd.prog 22 #[.agg #[.int .i64 ag, .int .i64 xf, .slice A l.length cap]] W fun e w' => e = .returned (.bool (Wh.val ag xf l)) ∧ Below W.heap.size W w') := Lib.hid fun W hb => isValid_any ag xf l A cap W (h.below hb)
  cases hv : Wh.val ag xf l
  · rw [hv] at HV
    have HQ : Hid (Wh.spn ag xf l = 0) := Lib.hid (by unfold Wh.spn; rw [hv]; rfl)
    clear hv h
    go_enter Tryd.func16, Tryd.ntmps16
    go_wp2_with (go_at_call 22; go_must (refine (HV.out _ ((Below.refl _ _).alloc (Nat.le_refl _) _)).mono ?_; rintro e w' ⟨rfl, hb⟩; obtain ⟨hc, hf⟩ := bcell hb; (try have hz0 : w.heap.size < w'.heap.size := Nat.lt_of_lt_of_le (by first | assumption | (simp; done) | (simp; omega)) hb.size); (try have hz1 : w.heap.size + 1 < w'.heap.size := Nat.lt_of_lt_of_le (by first | assumption | (simp; done) | (simp; omega)) hb.size); (try have hz2 : w.heap.size + 1 + 1 < w'.heap.size := Nat.lt_of_lt_of_le (by first | assumption | (simp; done) | (simp; omega)) hb.size); have hz := hb.size; (try simp at hz)))
    go_ret
    exact ⟨by rw [HQ.out]; rfl, (by repeat (first | exact Below.refl _ _ | assumption | refine Below.setCell ?_ (by first | (simp; done) | omega | (simp; omega) | (simp at *; omega)) _ | refine Below.alloc ?_ (by first | (simp; done) | omega | (simp; omega) | (simp at *; omega)) _ | refine Below.drew ?_ | (refine Below.trans ?_ (Below.mono (by assumption) (by first | (simp; done) | omega | (simp; omega) | (simp at *; omega)))) | (refine Below.trans ?_ (Below.mono (below_regrown _ _ _) (by first | (simp; done) | omega | (simp; omega) | (simp at *; omega))))))⟩
  · rw [hv] at HV
    have HQ : Hid (Wh.spn ag xf l = Wh.lsp l) := Lib.hid (by unfold Wh.spn; rw [hv]; rfl)
    obtain ⟨b, off, rfl, hA, hcap, a1, a2, a3, a4, a5, a6⟩ := row_val h hv
    have HE : Hid (∀ W, Below w.heap.size w W → Calls Tryd.prog 25 #[.slice (some ⟨b, off, none⟩) l.length cap] W fun e w' => e = .returned (.int .i64 (Wh.lsp l)) ∧ Below W.heap.size W w') :=
      Lib.hid fun W hb => lastSpan_any l b off cap W (hA.below hb) a1 a2 (IntWalk.i64_in _ (by omega))
    clear hv h hA a3 a4 a5 a6
    generalize Wh.lsp l = en at *
    go_enter Tryd.func16, Tryd.ntmps16
    go_wp2_with first | (go_at_call 22; (((with_reducible refine (HV.out _ ((Below.refl _ _).alloc (Nat.le_refl _) _)).mono ?_)); rintro e w1 ⟨rfl, hb1⟩; obtain ⟨hc1, hf1⟩ := bcell hb1; (try have hq1w : w.heap.size < w1.heap.size := Nat.lt_of_lt_of_le (by first | assumption | (simp; done) | (simp; omega)) hb1.size); have hs1 := hb1.size; (try simp at hs1))) | (go_at_call 25; (((with_reducible refine (HE.out _ (((Below.refl _ _).alloc (Nat.le_refl _) _).trans (hb1.mono (by simp)))).mono ?_)); rintro e w2 ⟨rfl, hb2⟩; obtain ⟨hc2, hf2⟩ := bcell hb2; (try have hq2w : w.heap.size < w2.heap.size := Nat.lt_of_lt_of_le (by first | assumption | (simp; done) | (simp; omega)) hb2.size); have hs2 := hb2.size; (try simp at hs2)))
    go_ret
    exact ⟨by rw [HQ.out]; rfl, (by repeat (first | exact Below.refl _ _ | assumption | refine Below.setCell ?_ (by first | (simp; done) | omega | (simp; omega) | (simp at *; omega)) _ | refine Below.alloc ?_ (by first | (simp; done) | omega | (simp; omega) | (simp at *; omega)) _ | refine Below.drew ?_ | (refine Below.trans ?_ (Below.mono (by assumption) (by first | (simp; done) | omega | (simp; omega) | (simp at *; omega)))) | (refine Below.trans ?_ (Below.mono (below_regrown _ _ _) (by first | (simp; done) | omega | (simp; omega) | (simp at *; omega))))))⟩

set_option maxHeartbeats 1000000 in
theorem offs_any (ag xf : Int) (l : List (Int × Int)) (A : Option Addr) (cap : Nat) (i : Int) (w : World) (h : Row w A l cap) :
    Calls Tryd.prog 40 #[.agg #[.int .i64 ag, .int .i64 xf, .slice A l.length cap], .int .i64 i] w fun e w' => e = .returned (.int .i64 (Wh.offs ag xf l i)) ∧ Below w.heap.size w w' := by
  have HV : Hid (∀ W, Below w.heap.size w W → Calls Tryd.prog 22 #[.agg #[.int .i64 ag, .int .i64 xf, .slice A l.length cap]] W fun e w' => e = .returned (.bool (Wh.val ag xf l)) ∧ Below W.heap.size W w') := Lib.hid fun W hb => isValid_any ag xf l A cap W (h.below hb)
  cases hv : Wh.val ag xf l
  · rw [hv] at HV
    have HQ : Hid (Wh.offs ag xf l i = 0) := Lib.hid (by unfold Wh.offs; rw [hv, if_neg (by simp)])
    clear hv h
    go_enter Tryd.func40, Tryd.ntmps40
    go_wp2_with (go_at_call 22; go_must (refine (HV.out _ ((Below.refl _ _).alloc (Nat.le_refl _) _)).mono ?_; rintro e w' ⟨rfl, hb⟩; obtain ⟨hc, hf⟩ := bcell hb; (try have hz0 : w.heap.size < w'.heap.size := Nat.lt_of_lt_of_le (by first | assumption | (simp; done) | (simp; omega)) hb.size); (try have hz1 : w.heap.size + 1 < w'.heap.size := Nat.lt_of_lt_of_le (by first | assumption | (simp; done) | (simp; omega)) hb.size); (try have hz2 : w.heap.size + 1 + 1 < w'.heap.size := Nat.lt_of_lt_of_le (by first | assumption | (simp; done) | (simp; omega)) hb.size); have hz := hb.size; (try simp at hz)))
    go_ret
    exact ⟨by rw [HQ.out]; rfl, (by repeat (first | exact Below.refl _ _ | assumption | refine Below.setCell ?_ (by first | (simp; done) | omega | (simp; omega) | (simp at *; omega)) _ | refine Below.alloc ?_ (by first | (simp; done) | omega | (simp; omega) | (simp at *; omega)) _ | refine Below.drew ?_ | (refine Below.trans ?_ (Below.mono (by assumption) (by first | (simp; done) | omega | (simp; omega) | (simp at *; omega)))) | (refine Below.trans ?_ (Below.mono (below_regrown _ _ _) (by first | (simp; done) | omega | (simp; omega) | (simp at *; omega))))))⟩
  · rw [hv] at HV
    by_cases i0 : i < 0
    · have HQ : Hid (Wh.offs ag xf l i = 0) := Lib.hid (by unfold Wh.offs; rw [if_neg (by omega)])
      clear hv h
      go_enter Tryd.func40, Tryd.ntmps40
      go_wp2_with (go_at_call 22; go_must (refine (HV.out _ ((Below.refl _ _).alloc (Nat.le_refl _) _)).mono ?_; rintro e w' ⟨rfl, hb⟩; obtain ⟨hc, hf⟩ := bcell hb; (try have hz0 : w.heap.size < w'.heap.size := Nat.lt_of_lt_of_le (by first | assumption | (simp; done) | (simp; omega)) hb.size); (try have hz1 : w.heap.size + 1 < w'.heap.size := Nat.lt_of_lt_of_le (by first | assumption | (simp; done) | (simp; omega)) hb.size); (try have hz2 : w.heap.size + 1 + 1 < w'.heap.size := Nat.lt_of_lt_of_le (by first | assumption | (simp; done) | (simp; omega)) hb.size); have hz := hb.size; (try simp at hz)))
      go_ret
      exact ⟨by rw [HQ.out]; rfl, (by repeat (first | exact Below.refl _ _ | assumption | refine Below.setCell ?_ (by first | (simp; done) | omega | (simp; omega) | (simp at *; omega)) _ | refine Below.alloc ?_ (by first | (simp; done) | omega | (simp; omega) | (simp at *; omega)) _ | refine Below.drew ?_ | (refine Below.trans ?_ (Below.mono (by assumption) (by first | (simp; done) | omega | (simp; omega) | (simp at *; omega)))) | (refine Below.trans ?_ (Below.mono (below_regrown _ _ _) (by first | (simp; done) | omega | (simp; omega) | (simp at *; omega))))))⟩
    · obtain ⟨i, rfl⟩ : ∃ k : Nat, i = (k : Int) := ⟨i.toNat, by omega⟩
      clear i0
      by_cases i1 : l.length ≤ i
      · have HQ : Hid (Wh.offs ag xf l i = 0) := Lib.hid (by unfold Wh.offs; rw [if_neg (by omega)])
        clear hv h
        go_enter Tryd.func40, Tryd.ntmps40
        go_wp2_with (go_at_call 22; go_must (refine (HV.out _ ((Below.refl _ _).alloc (Nat.le_refl _) _)).mono ?_; rintro e w' ⟨rfl, hb⟩; obtain ⟨hc, hf⟩ := bcell hb; (try have hz0 : w.heap.size < w'.heap.size := Nat.lt_of_lt_of_le (by first | assumption | (simp; done) | (simp; omega)) hb.size); (try have hz1 : w.heap.size + 1 < w'.heap.size := Nat.lt_of_lt_of_le (by first | assumption | (simp; done) | (simp; omega)) hb.size); (try have hz2 : w.heap.size + 1 + 1 < w'.heap.size := Nat.lt_of_lt_of_le (by first | assumption | (simp; done) | (simp; omega)) hb.size); have hz := hb.size; (try simp at hz)))
        go_ret
        exact ⟨by rw [HQ.out]; rfl, (by repeat (first | exact Below.refl _ _ | assumption | refine Below.setCell ?_ (by first | (simp; done) | omega | (simp; omega) | (simp at *; omega)) _ | refine Below.alloc ?_ (by first | (simp; done) | omega | (simp; omega) | (simp at *; omega)) _ | refine Below.drew ?_ | (refine Below.trans ?_ (Below.mono (by assumption) (by first | (simp; done) | omega | (simp; omega) | (simp at *; omega)))) | (refine Below.trans ?_ (Below.mono (below_regrown _ _ _) (by first | (simp; done) | omega | (simp; omega) | (simp at *; omega))))))⟩
      · have HQ : Hid (Wh.offs ag xf l i = Wh.ends l i) := Lib.hid (by unfold Wh.offs; rw [if_pos ⟨hv, by omega, by omega⟩]; rfl)
        obtain ⟨b, off, rfl, hA, hcap, a1, a2, a3, a4, _⟩ := row_val h hv
        have HE : Hid (∀ W, Below w.heap.size w W → Calls Tryd.prog 31 #[.slice (some ⟨b, off, none⟩) l.length cap, .int .i64 i] W fun e w' => e = .returned (.int .i64 (Wh.ends l i)) ∧ Below W.heap.size W w') :=
          Lib.hid fun W hb => end_any l b off cap i W (hA.below hb) hcap (by omega) a2 (Wh.alls_cnt a3)
        clear hv h hA a3 a4
        generalize Wh.ends l i = en at *
        go_enter Tryd.func40, Tryd.ntmps40
        go_wp2_with first | (go_at_call 22; (((with_reducible refine (HV.out _ ((Below.refl _ _).alloc (Nat.le_refl _) _)).mono ?_)); rintro e w1 ⟨rfl, hb1⟩; obtain ⟨hc1, hf1⟩ := bcell hb1; (try have hq1w : w.heap.size < w1.heap.size := Nat.lt_of_lt_of_le (by first | assumption | (simp; done) | (simp; omega)) hb1.size); have hs1 := hb1.size; (try simp at hs1))) | (go_at_call 31; (((with_reducible refine (HE.out _ (((Below.refl _ _).alloc (Nat.le_refl _) _).trans (hb1.mono (by simp)))).mono ?_)); rintro e w2 ⟨rfl, hb2⟩; obtain ⟨hc2, hf2⟩ := bcell hb2; (try have hq2w : w.heap.size < w2.heap.size := Nat.lt_of_lt_of_le (by first | assumption | (simp; done) | (simp; omega)) hb2.size); have hs2 := hb2.size; (try simp at hs2)))
        go_ret
        exact ⟨by rw [HQ.out]; rfl, (by repeat (first | exact Below.refl _ _ | assumption | refine Below.setCell ?_ (by first | (simp; done) | omega | (simp; omega) | (simp at *; omega)) _ | refine Below.alloc ?_ (by first | (simp; done) | omega | (simp; omega) | (simp at *; omega)) _ | refine Below.drew ?_ | (refine Below.trans ?_ (Below.mono (by assumption) (by first | (simp; done) | omega | (simp; omega) | (simp at *; omega)))) | (refine Below.trans ?_ (Below.mono (below_regrown _ _ _) (by first | (simp; done) | omega | (simp; omega) | (simp at *; omega))))))⟩
end Go.Proofs.YtbakngbmfgnmcaaDoor
