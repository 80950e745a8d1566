/-
  CONTRACTS: a kind's name, and a name's kind, on both sides.
-/
import Derived.Test.YtjaclmhfagdfhaaFxBase
import Derived.Laws.Strings
namespace Go.Proofs.Ytjaclmhfagdfhaa
open Go.RowKit
namespace Ag

def nm (kind : Int) : List UInt8 := if kind = 1 then [97, 118, 101, 114, 97, 103, 101] else if kind = 2 then [115, 117, 109] else if kind = 3 then [108, 97, 115, 116] else if kind = 4 then [109, 97, 120] else if kind = 5 then [109, 105, 110] else []
def avg : List UInt8 := [97, 118, 103]
def kd (name : List UInt8) : Int := if name = avg then 1 else if name = nm 1 then 1 else if name = nm 2 then 2 else if name = nm 3 then 3 else if name = nm 4 then 4 else if name = nm 5 then 5 else 0
theorem nm_no {kind : Int} (h1 : kind ≠ 1) (h2 : kind ≠ 2) (h3 : kind ≠ 3) (h4 : kind ≠ 4) (h5 : kind ≠ 5) : nm kind = [] := by
  unfold nm; rw [if_neg h1, if_neg h2, if_neg h3, if_neg h4, if_neg h5]
theorem kd_avg {name : List UInt8} (h : name = avg) : kd name = 1 := by unfold kd; rw [if_pos h]
/-- The first kind of that name. -/
theorem kd_at {name : List UInt8} {j : Nat} (h : name ≠ avg) (h0 : 1 ≤ j) (h1 : j ≤ 5) (hn : name = nm (j : Int)) (hb : ∀ t : Nat, 1 ≤ t → t < j → name ≠ nm (t : Int)) : kd name = (j : Int) := by
  unfold kd
  rw [if_neg h]
  obtain rfl | rfl | rfl | rfl | rfl : j = 1 ∨ j = 2 ∨ j = 3 ∨ j = 4 ∨ j = 5 := by omega
  · rw [if_pos (by exact hn)]; rfl
  · rw [if_neg (show name ≠ nm 1 from hb 1 (by omega) (by omega)), if_pos (by exact hn)]; rfl
  · rw [if_neg (show name ≠ nm 1 from hb 1 (by omega) (by omega)), if_neg (show name ≠ nm 2 from hb 2 (by omega) (by omega)), if_pos (by exact hn)]; rfl
  · rw [if_neg (show name ≠ nm 1 from hb 1 (by omega) (by omega)), if_neg (show name ≠ nm 2 from hb 2 (by omega) (by omega)), if_neg (show name ≠ nm 3 from hb 3 (by omega) (by omega)), if_pos (by exact hn)]; rfl
  · rw [if_neg (show name ≠ nm 1 from hb 1 (by omega) (by omega)), if_neg (show name ≠ nm 2 from hb 2 (by omega) (by omega)), if_neg (show name ≠ nm 3 from hb 3 (by omega) (by omega)), if_neg (show name ≠ nm 4 from hb 4 (by omega) (by omega)), if_pos (by exact hn)]; rfl
theorem kd_none {name : List UInt8} (h : name ≠ avg) (hb : ∀ t : Nat, 1 ≤ t → t < 6 → name ≠ nm (t : Int)) : kd name = 0 := by
  unfold kd
  rw [if_neg h, if_neg (show name ≠ nm 1 from hb 1 (by omega) (by omega)), if_neg (show name ≠ nm 2 from hb 2 (by omega) (by omega)), if_neg (show name ≠ nm 3 from hb 3 (by omega) (by omega)), if_neg (show name ≠ nm 4 from hb 4 (by omega) (by omega)), if_neg (show name ≠ nm 5 from hb 5 (by omega) (by omega))]
theorem kd_nm {kind : Int} (h1 : 1 ≤ kind) (h5 : kind ≤ 5) : kd (nm kind) = kind := by
  obtain rfl | rfl | rfl | rfl | rfl : kind = 1 ∨ kind = 2 ∨ kind = 3 ∨ kind = 4 ∨ kind = 5 := by omega
  all_goals decide
theorem nm_len (kind : Int) : (nm kind).length ≤ 7 := by unfold nm; repeat' split
                                                         all_goals simp
theorem text_eq {a b : List UInt8} (h : (⟨a.toArray⟩ : ByteArray) = ⟨b.toArray⟩) : a = b := by injection h with h; simpa using h
end Ag

set_option maxHeartbeats 1000000 in
theorem name_any (kind : Int) (w : World) :
    Calls Try.prog 18 #[.int .i64 kind] w fun e w' => e = .returned (.string ⟨(Ag.nm kind).toArray⟩) ∧ w = w' := by
  by_cases h1 : kind = 1
  · subst h1
    go_enter Try.func18, Try.ntmps18
    go_wp2
    go_ret
    exact ⟨rfl, rfl⟩
  by_cases h2 : kind = 2
  · subst h2
    go_enter Try.func18, Try.ntmps18
    go_wp2
    go_ret
    exact ⟨rfl, rfl⟩
  by_cases h3 : kind = 3
  · subst h3
    go_enter Try.func18, Try.ntmps18
    go_wp2
    go_ret
    exact ⟨rfl, rfl⟩
  by_cases h4 : kind = 4
  · subst h4
    go_enter Try.func18, Try.ntmps18
    go_wp2
    go_ret
    exact ⟨rfl, rfl⟩
  by_cases h5 : kind = 5
  · subst h5
    go_enter Try.func18, Try.ntmps18
    go_wp2
    go_ret
    exact ⟨rfl, rfl⟩
  have HN := Lib.hid (Ag.nm_no h1 h2 h3 h4 h5)
  go_enter Try.func18, Try.ntmps18
  go_wp2
  go_ret
  exact ⟨by rw [HN.out]; rfl, rfl⟩

set_option maxHeartbeats 1000000 in
theorem refName_any (kind : Int) (w : World) :
    Calls Try.prog 19 #[.int .i64 kind] w fun e w' => e = .returned (.string ⟨(Ag.nm kind).toArray⟩) ∧ w = w' := by
  by_cases h1 : kind = 1
  · subst h1
    go_enter Try.func19, Try.ntmps19
    go_wp2
    go_ret
    exact ⟨rfl, rfl⟩
  by_cases h2 : kind = 2
  · subst h2
    go_enter Try.func19, Try.ntmps19
    go_wp2
    go_ret
    exact ⟨rfl, rfl⟩
  by_cases h3 : kind = 3
  · subst h3
    go_enter Try.func19, Try.ntmps19
    go_wp2
    go_ret
    exact ⟨rfl, rfl⟩
  by_cases h4 : kind = 4
  · subst h4
    go_enter Try.func19, Try.ntmps19
    go_wp2
    go_ret
    exact ⟨rfl, rfl⟩
  by_cases h5 : kind = 5
  · subst h5
    go_enter Try.func19, Try.ntmps19
    go_wp2
    go_ret
    exact ⟨rfl, rfl⟩
  have HN := Lib.hid (Ag.nm_no h1 h2 h3 h4 h5)
  go_enter Try.func19, Try.ntmps19
  go_wp2
  go_ret
  exact ⟨by rw [HN.out]; rfl, rfl⟩

set_option maxHeartbeats 1000000 in
theorem kind_any (name : List UInt8) (w : World) :
    Calls Try.prog 20 #[.string ⟨name.toArray⟩] w fun e w' => e = .returned (.int .i64 (Ag.kd name)) ∧ w = w' := by
  by_cases ha : name = Ag.avg
  · subst ha
    go_enter Try.func20, Try.ntmps20
    go_wp2
    go_ret
    exact ⟨rfl, rfl⟩
  have HA := Lib.hid ha
  have hs : ((⟨name.toArray⟩ : ByteArray).toList == [97, 118, 103]) = false := by
    rw [ByteArray.toList_mk]
    simpa [Ag.avg] using ha
  obtain ⟨s, hse⟩ : ∃ s : ByteArray, Hid (s = ⟨name.toArray⟩) := ⟨_, Lib.hid rfl⟩
  rw [← hse.out] at hs ⊢
  clear ha
  go_enter Try.func20, Try.ntmps20
  go_wp2_with fail
  go_loopw [3] (fun i wr => wr = w ∧ ∃ j : Nat, 1 ≤ j ∧ j ≤ 6 ∧ i = .int .i64 j ∧ Hid (∀ t : Nat, 1 ≤ t → t < j → name ≠ Ag.nm (t : Int))) (fun i _ => 6 - (intOf i).toNat)
  case atStart => exact ⟨rfl, 1, Nat.le_refl _, by omega, rfl, Lib.hid fun t h1 h2 => by omega⟩
  case round =>
    obtain ⟨rfl, j, h1, h6, rfl, HB⟩ := hrel
    by_cases hj : j = 6
    · subst hj
      have HK := Lib.hid (Ag.kd_none HA.out HB.out)
      go_wp2
      go_ret
      exact ⟨by rw [HK.out]; rfl, rfl⟩
    · have hj5 : j ≤ 5 := by omega
      have HN : Hid (∀ W, Calls Try.prog 18 #[.int .i64 (j : Int)] W fun e w' => e = .returned (.string ⟨(Ag.nm (j : Int)).toArray⟩) ∧ W = w') := Lib.hid fun W => name_any _ W
      obtain ⟨t, hte⟩ : ∃ t : ByteArray, Hid (t = ⟨(Ag.nm (j : Int)).toArray⟩) := ⟨_, Lib.hid rfl⟩
      rw [← hte.out] at HN
      by_cases hq : t = s
      · have HK := Lib.hid (Ag.kd_at HA.out h1 hj5 (Ag.text_eq (by rw [← hse.out, ← hte.out, hq])) HB.out)
        subst hq
        go_wp2_with (go_at_call 18; go_must (refine (HN.out _).mono ?_; rintro e w' ⟨rfl, rfl⟩))
        go_ret
        exact ⟨by rw [HK.out]; rfl, rfl⟩
      · have HQ : Hid (name ≠ Ag.nm (j : Int)) := Lib.hid fun e => hq (by rw [hse.out, hte.out, e])
        have hq2 : (t.toList == s.toList) = false := by
          rw [hse.out, hte.out, ByteArray.toList_mk, ByteArray.toList_mk]
          simpa using fun e => HQ.out e.symm
        go_wp2_with (go_at_call 18; go_must (refine (HN.out _).mono ?_; rintro e w' ⟨rfl, rfl⟩))
        go_roundw
        case rel => exact ⟨by trivial, j + 1, by omega, by omega, by go_num, Lib.hid fun t h1 h2 => by
          by_cases e : t = j
          · rw [e]; exact HQ.out
          · exact HB.out t h1 (by omega)⟩
        case measure => simp [intOf]; omega

set_option maxHeartbeats 1000000 in
theorem refKind_any (name : List UInt8) (w : World) :
    Calls Try.prog 21 #[.string ⟨name.toArray⟩] w fun e w' => e = .returned (.int .i64 (Ag.kd name)) ∧ w = w' := by
  by_cases ha : name = Ag.avg
  · subst ha
    go_enter Try.func21, Try.ntmps21
    go_wp2
    go_ret
    exact ⟨rfl, rfl⟩
  have HA := Lib.hid ha
  have hs : ((⟨name.toArray⟩ : ByteArray).toList == [97, 118, 103]) = false := by
    rw [ByteArray.toList_mk]
    simpa [Ag.avg] using ha
  obtain ⟨s, hse⟩ : ∃ s : ByteArray, Hid (s = ⟨name.toArray⟩) := ⟨_, Lib.hid rfl⟩
  rw [← hse.out] at hs ⊢
  clear ha
  go_enter Try.func21, Try.ntmps21
  go_wp2_with fail
  go_loopw [3] (fun i wr => wr = w ∧ ∃ j : Nat, 1 ≤ j ∧ j ≤ 6 ∧ i = .int .i64 j ∧ Hid (∀ t : Nat, 1 ≤ t → t < j → name ≠ Ag.nm (t : Int))) (fun i _ => 6 - (intOf i).toNat)
  case atStart => exact ⟨rfl, 1, Nat.le_refl _, by omega, rfl, Lib.hid fun t h1 h2 => by omega⟩
  case round =>
    obtain ⟨rfl, j, h1, h6, rfl, HB⟩ := hrel
    by_cases hj : j = 6
    · subst hj
      have HK := Lib.hid (Ag.kd_none HA.out HB.out)
      go_wp2
      go_ret
      exact ⟨by rw [HK.out]; rfl, rfl⟩
    · have hj5 : j ≤ 5 := by omega
      have HN : Hid (∀ W, Calls Try.prog 19 #[.int .i64 (j : Int)] W fun e w' => e = .returned (.string ⟨(Ag.nm (j : Int)).toArray⟩) ∧ W = w') := Lib.hid fun W => refName_any _ W
      obtain ⟨t, hte⟩ : ∃ t : ByteArray, Hid (t = ⟨(Ag.nm (j : Int)).toArray⟩) := ⟨_, Lib.hid rfl⟩
      rw [← hte.out] at HN
      by_cases hq : t = s
      · have HK := Lib.hid (Ag.kd_at HA.out h1 hj5 (Ag.text_eq (by rw [← hse.out, ← hte.out, hq])) HB.out)
        subst hq
        go_wp2_with (go_at_call 19; go_must (refine (HN.out _).mono ?_; rintro e w' ⟨rfl, rfl⟩))
        go_ret
        exact ⟨by rw [HK.out]; rfl, rfl⟩
      · have HQ : Hid (name ≠ Ag.nm (j : Int)) := Lib.hid fun e => hq (by rw [hse.out, hte.out, e])
        have hq2 : (t.toList == s.toList) = false := by
          rw [hse.out, hte.out, ByteArray.toList_mk, ByteArray.toList_mk]
          simpa using fun e => HQ.out e.symm
        go_wp2_with (go_at_call 19; go_must (refine (HN.out _).mono ?_; rintro e w' ⟨rfl, rfl⟩))
        go_roundw
        case rel => exact ⟨by trivial, j + 1, by omega, by omega, by go_num, Lib.hid fun t h1 h2 => by
          by_cases e : t = j
          · rw [e]; exact HQ.out
          · exact HB.out t h1 (by omega)⟩
        case measure => simp [intOf]; omega
end Go.Proofs.Ytjaclmhfagdfhaa
