/-
  NmProg: CONTRACTS: package name: what may stand in a name, parts, joined, files, the part at a place.
  NmFn: CONTRACTS: package name: Is, Parts, Join, File, Of, Node, for every text.
  NmFn2: CONTRACTS: package name: Join, File, Of, Node, for every text.
-/
import Derived.Test.YtfmbbhcjnidcbaaGreatDoorJ6
import Derived.RegionTactic

namespace Go.Proofs.YtfmbbhcjnidcbaaGreatDoor
open Go.RowKit
open Me

namespace Nm
theorem ret_bool {a b : Bool} (h : a = b) : Ending.returned (.bool a) = .returned (.bool b) := by rw [h]
theorem ret_str {a b : List UInt8} (h : a = b) : Ending.returned (.string ⟨a.toArray⟩) = .returned (.string ⟨b.toArray⟩) := by rw [h]
theorem okB_a {b : UInt8} (h1 : 97 ≤ b.toNat) (h2 : b.toNat ≤ 122) : okB b = true := by unfold okB; simp [h1, h2]
theorem okB_A {b : UInt8} (h1 : 65 ≤ b.toNat) (h2 : b.toNat ≤ 90) : okB b = true := by unfold okB; simp [h1, h2]
theorem okB_0 {b : UInt8} (h1 : 48 ≤ b.toNat) (h2 : b.toNat ≤ 57) : okB b = true := by unfold okB; simp [h1, h2]
theorem okB_else {b : UInt8} (h1 : ¬ (97 ≤ b.toNat ∧ b.toNat ≤ 122)) (h2 : ¬ (65 ≤ b.toNat ∧ b.toNat ≤ 90)) (h3 : ¬ (48 ≤ b.toNat ∧ b.toNat ≤ 57)) : okB b = [95, 45, 58, 35, 37, 64, 61].contains b := by
  unfold okB
  rw [decide_eq_false h1, decide_eq_false h2, decide_eq_false h3]
  rfl
theorem index_has (l : List UInt8) (b : UInt8) : decide (0 ≤ Lib.indexByte l b) = l.contains b := by
  induction l with
  | nil => rfl
  | cons c r ih =>
    unfold Lib.indexByte
    have hg := Lib.indexByte_ge r b
    by_cases hb : c = b
    · subst hb; simp
    · have h1 : (c == b) = false := by simpa using hb
      rw [h1, List.contains_cons, show (b == c) = false by simpa using fun e => hb e.symm, Bool.false_or, ← ih]
      simp only [Bool.false_eq_true, if_false]
      by_cases h2 : Lib.indexByte r b = -1
      · rw [h2]; rfl
      · rw [if_neg (by simpa using h2), decide_eq_true (by omega), decide_eq_true (by omega)]
/-- Every byte of the first k may stand. -/
theorem all_take (p : List UInt8) (k : Nat) (h : k < p.length) : (p.take (k + 1)).all okB = ((p.take k).all okB && okB p[k]) := by
  rw [List.take_succ_eq_append_getElem h, List.all_append]; simp
theorem all_false {p : List UInt8} {k : Nat} (h : k < p.length) (hb : okB p[k] = false) : p.all okB = false := by
  rw [List.all_eq_false]; exact ⟨p[k], List.getElem_mem h, by rw [hb]; simp⟩
theorem okP_bad {p : List UInt8} (h : p.all okB = false) : okP p = false := by unfold okP; rw [h, Bool.and_false]
theorem okP_good {p : List UInt8} (h : p.all okB = true) : okP p = !p.isEmpty := by unfold okP; rw [h, Bool.and_true]
theorem is_long {s : List UInt8} (h : 200 < s.length) : is s = false := by unfold is; rw [decide_eq_false (by omega)]; rfl
theorem is_bad {s : List UInt8} {k : Nat} (h : k < (pt s).length) (hb : okP (pt s)[k] = false) : is s = false := by
  unfold is
  rw [show (pt s).all okP = false from List.all_eq_false.2 ⟨(pt s)[k], List.getElem_mem h, by rw [hb]; simp⟩, Bool.and_false, Bool.false_and]
theorem is_good {s : List UInt8} (h : s.length ≤ 200) (hb : ∀ k (h : k < (pt s).length), okP (pt s)[k] = true) : is s = decide ((pt s).length ≤ 20) := by
  unfold is
  rw [decide_eq_true h, show (pt s).all okP = true from List.all_eq_true.2 fun p hp => by obtain ⟨k, hk, rfl⟩ := List.getElem_of_mem hp; exact hb k hk]
  rfl
theorem byS_same (l : List (List UInt8)) (k : Nat) (h : k < l.length) : (byS l).toArray.setIfInBounds k (.string ⟨(l[k]).toArray⟩) = (byS l).toArray := by
  apply Array.ext_getElem?
  intro j
  rw [List.setIfInBounds_toArray, List.getElem?_toArray, List.getElem?_toArray, List.getElem?_set]
  by_cases hj : k = j
  · subst hj; rw [if_pos rfl, byS_get l k h, if_pos (by rw [byS_len]; exact h)]
  · rw [if_neg hj]
end Nm

set_option maxHeartbeats 1000000 in
theorem stand_any (b : UInt8) (w : World) :
    Calls Tryz.prog 59 #[.int .u8 (b.toNat : Int)] w fun e w' => e = .returned (.bool (Nm.okB b)) ∧ w' = w := by
  have HX : Hid (∀ W, Calls Tryz.prog 83 #[.string ⟨#[95, 45, 58, 35, 37, 64, 61]⟩, .int .u8 (b.toNat : Int)] W fun e w' => e = .returned (.int .i64 (Lib.indexByte [95, 45, 58, 35, 37, 64, 61] b)) ∧ w' = W) := Lib.hid fun W => by
    refine (Tryz.strings_IndexByte ⟨#[95, 45, 58, 35, 37, 64, 61]⟩ (b.toNat : Int) W).mono ?_
    rintro e w' ⟨rfl, hw⟩
    refine ⟨?_, hw⟩
    rw [show ((b.toNat : Int).toNat.toUInt8) = b by rw [Int.toNat_natCast]; exact UInt8.ofNat_toNat]
  have HI := Lib.hid (Nm.index_has [95, 45, 58, 35, 37, 64, 61] b)
  have HA := Lib.hid (@Nm.okB_a b)
  have HB := Lib.hid (@Nm.okB_A b)
  have HC := Lib.hid (@Nm.okB_0 b)
  have HD := Lib.hid (@Nm.okB_else b)
  generalize Lib.indexByte [95, 45, 58, 35, 37, 64, 61] b = ix at *
  have HR := Lib.hid (rfl : Nm.okB b = Nm.okB b)
  generalize hn : b.toNat = n at *
  have hn2 : n < 256 := by rw [← hn]; exact UInt8.toNat_lt b
  generalize Nm.okB b = R at *
  clear hn HR
  by_cases h1 : 97 ≤ n
  · by_cases h2 : n ≤ 122
    · have HQ := Lib.hid (HA.out h1 h2)
      have g1 : (97 : Int) ≤ (n : Int) := by omega
      have g2 : (n : Int) ≤ 122 := by omega
      clear h1 h2
      go_enter Tryz.func59, Tryz.ntmps59
      go_wp2_with fail
      go_ret
      exact ⟨Nm.ret_bool HQ.out.symm, rfl⟩
    · have HQ := Lib.hid (HD.out (by omega) (by omega) (by omega))
      have g1 : (97 : Int) ≤ (n : Int) := by omega
      have g2 : ¬ (n : Int) ≤ 122 := by omega
      have g3 : (65 : Int) ≤ (n : Int) := by omega
      have g4 : ¬ (n : Int) ≤ 90 := by omega
      have g5 : (48 : Int) ≤ (n : Int) := by omega
      have g6 : ¬ (n : Int) ≤ 57 := by omega
      clear h1 h2
      go_enter Tryz.func59, Tryz.ntmps59
      go_wp2_with (go_at_call 83; go_must (refine (HX.out _).mono ?_; rintro e w' ⟨rfl, rfl⟩))
      go_ret
      exact ⟨Nm.ret_bool (by rw [HQ.out, ← HI.out]), rfl⟩
  · have g1 : ¬ (97 : Int) ≤ (n : Int) := by omega
    by_cases h3 : 65 ≤ n
    · have g3 : (65 : Int) ≤ (n : Int) := by omega
      by_cases h4 : n ≤ 90
      · have HQ := Lib.hid (HB.out h3 h4)
        have g4 : (n : Int) ≤ 90 := by omega
        clear h1 h3 h4
        go_enter Tryz.func59, Tryz.ntmps59
        go_wp2_with fail
        go_ret
        exact ⟨Nm.ret_bool HQ.out.symm, rfl⟩
      · have HQ := Lib.hid (HD.out (by omega) (by omega) (by omega))
        have g4 : ¬ (n : Int) ≤ 90 := by omega
        have g5 : (48 : Int) ≤ (n : Int) := by omega
        have g6 : ¬ (n : Int) ≤ 57 := by omega
        clear h1 h3 h4
        go_enter Tryz.func59, Tryz.ntmps59
        go_wp2_with (go_at_call 83; go_must (refine (HX.out _).mono ?_; rintro e w' ⟨rfl, rfl⟩))
        go_ret
        exact ⟨Nm.ret_bool (by rw [HQ.out, ← HI.out]), rfl⟩
    · have g3 : ¬ (65 : Int) ≤ (n : Int) := by omega
      by_cases h5 : 48 ≤ n
      · have g5 : (48 : Int) ≤ (n : Int) := by omega
        by_cases h6 : n ≤ 57
        · have HQ := Lib.hid (HC.out h5 h6)
          have g6 : (n : Int) ≤ 57 := by omega
          clear h1 h3 h5 h6
          go_enter Tryz.func59, Tryz.ntmps59
          go_wp2_with fail
          go_ret
          exact ⟨Nm.ret_bool HQ.out.symm, rfl⟩
        · have HQ := Lib.hid (HD.out (by omega) (by omega) (by omega))
          have g6 : ¬ (n : Int) ≤ 57 := by omega
          clear h1 h3 h5 h6
          go_enter Tryz.func59, Tryz.ntmps59
          go_wp2_with (go_at_call 83; go_must (refine (HX.out _).mono ?_; rintro e w' ⟨rfl, rfl⟩))
          go_ret
          exact ⟨Nm.ret_bool (by rw [HQ.out, ← HI.out]), rfl⟩
      · have HQ := Lib.hid (HD.out (by omega) (by omega) (by omega))
        have g5 : ¬ (48 : Int) ≤ (n : Int) := by omega
        clear h1 h3 h5
        go_enter Tryz.func59, Tryz.ntmps59
        go_wp2_with (go_at_call 83; go_must (refine (HX.out _).mono ?_; rintro e w' ⟨rfl, rfl⟩))
        go_ret
        exact ⟨Nm.ret_bool (by rw [HQ.out, ← HI.out]), rfl⟩

set_option maxHeartbeats 1000000 in
theorem isPart_any (p : List UInt8) (hl : p.length ≤ 4294967280) (w : World) :
    Calls Tryz.prog 35 #[.string ⟨p.toArray⟩] w fun e w' => e = .returned (.bool (Nm.okP p)) ∧ w' = w := by
  have hs : (⟨p.toArray⟩ : ByteArray).size = p.length := by show p.toArray.size = _; simp
  go_enter Tryz.func35, Tryz.ntmps35
  go_wp2_with fail
  go_loop [6] (fun i => ∃ k : Nat, k ≤ p.length ∧ i = .int .i64 k ∧ Hid ((p.take k).all Nm.okB = true)) (fun i => p.length - (intOf i).toNat)
  case atStart => exact ⟨0, Nat.zero_le _, rfl, Lib.hid rfl⟩
  case round =>
    obtain ⟨k, hk, rfl, HD⟩ := hrel
    by_cases hlt : k < p.length
    · have hn := Lib.hid (Nm.all_take p k hlt)
      have hx : (⟨p.toArray⟩ : ByteArray)[k]'hlt = p[k] := rfl
      cases hc : Nm.okB p[k]
      · have hf := Lib.hid (Nm.okP_bad (Nm.all_false hlt hc))
        have HC := Lib.hid hc
        clear hc
        have HDg : Hid (∀ W, Calls Tryz.prog 59 #[.int .u8 ((⟨p.toArray⟩ : ByteArray)[k]'hlt).toNat] W fun e w' => e = .returned (.bool false) ∧ w' = W) := by
          apply Lib.hid; intro W
          have := stand_any p[k] W
          rw [HC.out] at this
          exact this
        clear hx
        go_wp2_with (go_at_call 59; go_must (refine (HDg.out _).mono ?_; rintro e w' ⟨rfl, rfl⟩))
        go_ret
        exact ⟨Nm.ret_bool hf.out.symm, rfl⟩
      · have HC := Lib.hid hc
        clear hc
        have HDg : Hid (∀ W, Calls Tryz.prog 59 #[.int .u8 ((⟨p.toArray⟩ : ByteArray)[k]'hlt).toNat] W fun e w' => e = .returned (.bool true) ∧ w' = W) := by
          apply Lib.hid; intro W
          have := stand_any p[k] W
          rw [HC.out] at this
          exact this
        clear hx
        go_wp2_with (go_at_call 59; go_must (refine (HDg.out _).mono ?_; rintro e w' ⟨rfl, rfl⟩))
        go_round
        case rel => exact ⟨k + 1, by omega, by go_num, Lib.hid (by rw [hn.out, HD.out, HC.out]; rfl)⟩
        case measure => simp [intOf]; omega
    · obtain rfl : k = p.length := by omega
      rw [List.take_length] at HD
      have HG := Lib.hid (Nm.okP_good HD.out)
      go_wp2
      go_ret
      exact ⟨Nm.ret_bool (by rw [HG.out]), rfl⟩
end Go.Proofs.YtfmbbhcjnidcbaaGreatDoor

namespace Go.Proofs.YtfmbbhcjnidcbaaGreatDoor
open Go.RowKit
open Me

/-- A row of texts of the call's own. -/
def OwnS (base : Nat) (w : World) (v : Value) (l : List (List UInt8)) : Prop := w.ownsRow base 9 1 v l.length (byS l)
theorem OwnS.new (w : World) (l : List (List UInt8)) (h : l.length ≤ maxLen) : OwnS w.heap.size (w.alloc (.cells (byS l).toArray 9)) (.slice (some ⟨w.heap.size, 0, none⟩) l.length l.length) l := by
  have := World.ownsRow_lit (base := w.heap.size) (e := 9) (size := 1) w (byS l).toArray l.length (Nat.le_refl _) h (by simp [byS_len])
  unfold OwnS; simpa using this
theorem OwnS.below {a : Nat} {w w' : World} {v : Value} {l : List (List UInt8)} (h : OwnS a w v l) (k : Below w.heap.size w w') : OwnS a w' v l :=
  owns_keep h fun g hg => k.block g (World.ownsRow.lt h g hg).2
theorem OwnS.nil (a : Nat) (w : World) : OwnS a w (.slice none 0 0) [] := ⟨rfl, .inl ⟨rfl, rfl⟩⟩
theorem OwnS.cell {base : Nat} {w : World} {g n c : Nat} {l : List (List UInt8)} (h : OwnS base w (.slice (some ⟨g, 0, none⟩) n c) l) (k : Nat) (hk : k < l.length) : w.cell? ⟨g, k, none⟩ = some (.string ⟨(l[k]).toArray⟩) := by
  obtain ⟨h1, h2⟩ := h
  rcases h2 with ⟨h', _⟩ | ⟨g', cap', cur, h', hb, hg, hnc, hcm, hcs, ht⟩
  · simp at h'
  · simp only [Value.slice.injEq, Option.some.injEq, Addr.mk.injEq, and_true] at h'
    obtain ⟨rfl, rfl, rfl⟩ := h'
    rw [cell_of_row w g k cur 9 (0, 0) hg, ← byS_get l k hk, ← ht, List.getElem?_take, if_pos (by omega)]
    simp
theorem OwnS.lt {base : Nat} {w : World} {g n c : Nat} {l : List (List UInt8)} (h : OwnS base w (.slice (some ⟨g, 0, none⟩) n c) l) : base ≤ g ∧ g < w.heap.size := World.ownsRow.lt h g rfl
theorem OwnS.frozen {base : Nat} {w : World} {g n c : Nat} {l : List (List UInt8)} (h : OwnS base w (.slice (some ⟨g, 0, none⟩) n c) l) (k : Nat) : w.frozen? ⟨g, k, none⟩ = false := by
  obtain ⟨h1, h2⟩ := h
  rcases h2 with ⟨h', _⟩ | ⟨g', cap', cur, h', hb, hg, hnc, hcm, hcs, ht⟩
  · simp at h'
  · simp only [Value.slice.injEq, Option.some.injEq, Addr.mk.injEq, and_true] at h'
    obtain ⟨rfl, rfl, rfl⟩ := h'
    exact frozen_of_row w g k cur _ hg
theorem OwnS.again {base : Nat} {w : World} {g c : Nat} {l : List (List UInt8)} (h : OwnS base w (.slice (some ⟨g, 0, none⟩) l.length c) l) (k : Nat) (hk : k < l.length) : OwnS base (w.setCell ⟨g, k, none⟩ (.string ⟨(l[k]).toArray⟩)) (.slice (some ⟨g, 0, none⟩) l.length c) l := by
  have := (World.ownsRow.stored h k (.string ⟨(l[k]).toArray⟩)).1
  have e : (byS l).set k (.string ⟨(l[k]).toArray⟩) = byS l := by
    apply List.ext_getElem?
    intro j
    rw [List.getElem?_set]
    by_cases hj : k = j
    · subst hj; rw [if_pos rfl, byS_get l k hk, if_pos (by rw [byS_len]; exact hk)]
    · rw [if_neg hj]
  rw [e] at this
  exact this

/-- What Split hands back. -/
theorem split_any (l : List UInt8) (hl : l.length ≤ 4294967280) (w : World) (hm : Mx w) :
    Calls Tryz.prog 34 #[.string ⟨l.toArray⟩, .string ⟨#[46]⟩] w fun e w' => e = .returned (.slice (some ⟨w.heap.size, 0, none⟩) (Nm.pt l).length (Nm.pt l).length) ∧ OwnS w.heap.size w' (.slice (some ⟨w.heap.size, 0, none⟩) (Nm.pt l).length (Nm.pt l).length) (Nm.pt l) ∧ Below w.heap.size w w' := by
  refine (split46 l hl w hm).mono ?_
  rintro e w' ⟨rfl, rfl⟩
  have := Nm.pt_len l
  exact ⟨rfl, OwnS.new w _ (by unfold maxLen; omega), (Below.refl _ _).alloc (Nat.le_refl _) _⟩

set_option maxHeartbeats 1000000 in
theorem is_any (s : List UInt8) (hl : s.length ≤ 4294967280) (w : World) (hm : Mx w) :
    Calls Tryz.prog 19 #[.string ⟨s.toArray⟩] w fun e w' => e = .returned (.bool (Nm.is s)) ∧ Below w.heap.size w w' := by
  have hs : (⟨s.toArray⟩ : ByteArray).size = s.length := by show s.toArray.size = _; simp
  by_cases h2 : 200 < s.length
  · have h2' : (200 : Int) < (s.length : Int) := by omega
    have HQ := Lib.hid (Nm.is_long h2)
    clear h2
    go_enter Tryz.func19, Tryz.ntmps19
    go_wp2_with fail
    go_ret
    exact ⟨Nm.ret_bool HQ.out.symm, Below.refl _ _⟩
  · have h2' : ¬ (200 : Int) < (s.length : Int) := by omega
    have H1 := Lib.hid (split_any s hl w hm)
    have HG := Lib.hid (@Nm.is_good s (by omega))
    have HBd := Lib.hid (fun k (h : k < (Nm.pt s).length) (hc : Nm.okP (Nm.pt s)[k] = false) => Nm.is_bad h hc)
    have HL := Lib.hid (fun k (h : k < (Nm.pt s).length) => Nat.le_trans (Nm.pt_part_len s _ (List.getElem_mem h)) hl)
    have hLn : ((Nm.pt s).length : Int) ≤ 4294967281 := by have := Nm.pt_len s; omega
    clear h2
    generalize Nm.is s = R at *
    generalize Nm.pt s = L at *
    go_enter Tryz.func19, Tryz.ntmps19
    go_wp2_with (go_at_call 34; go_must (refine (H1.out).mono ?_; rintro e w1 ⟨rfl, ho, hb⟩))
    have HO := Lib.hid ho
    have HB := Lib.hid hb
    have hlt1 := ho.lt.2
    clear ho hb
    go_loop [13] (fun i => ∃ k : Nat, k ≤ L.length ∧ i = .int .i64 k ∧ Hid (∀ j (h : j < L.length), j < k → Nm.okP L[j] = true)) (fun i => L.length - (intOf i).toNat)
    case atStart => exact ⟨0, Nat.zero_le _, rfl, Lib.hid fun j _ h => absurd h (by omega)⟩
    case round =>
      obtain ⟨k, hk, rfl, HD⟩ := hrel
      by_cases hlt : k < L.length
      · have ec := HO.out.cell k hlt
        have hkl : (k : Int) < (L.length : Int) := by omega
        have hk0 : (0 : Int) ≤ (k : Int) := by omega
        have hP := Lib.hid (isPart_any L[k] (HL.out k hlt) w1)
        cases hc : Nm.okP L[k]
        · have HC := Lib.hid (HBd.out k hlt hc)
          rw [hc] at hP
          clear hc
          go_wp2_with (go_at_call 35; go_must (refine (hP.out).mono ?_; rintro e w' ⟨rfl, rfl⟩))
          go_ret
          exact ⟨Nm.ret_bool HC.out.symm, HB.out⟩
        · have HC := Lib.hid hc
          rw [hc] at hP
          clear hc
          go_wp2_with (go_at_call 35; go_must (refine (hP.out).mono ?_; rintro e w' ⟨rfl, rfl⟩))
          go_round
          case rel =>
            refine ⟨k + 1, by omega, by go_num, Lib.hid fun j h hj => ?_⟩
            by_cases e : j = k
            · subst e; exact HC.out
            · exact HD.out j h (by omega)
          case measure => simp [intOf]; omega
      · obtain rfl : k = L.length := by omega
        have HE : Hid (R = decide ((L.length : Int) ≤ 20)) := Lib.hid (by rw [HG.out fun j h => HD.out j h h]; congr 1; apply propext; omega)
        go_wp2
        go_ret
        exact ⟨Nm.ret_bool HE.out.symm, HB.out⟩

theorem owns_cell {base : Nat} {w : World} {g n c : Nat} {l : List (List UInt8)} (h : OwnS base w (.slice (some ⟨g, 0, none⟩) n c) l) (k : Nat) (hk : k < l.length) : w.cell? ⟨g, k, none⟩ = some (.string ⟨(l[k]).toArray⟩) := h.cell k hk

set_option maxHeartbeats 1000000 in
theorem parts_any (s : List UInt8) (hl : s.length ≤ 4294967280) (w : World) (hm : Mx w) :
    Calls Tryz.prog 21 #[.string ⟨s.toArray⟩] w fun e w' => ∃ v, e = .returned v ∧ OwnS w.heap.size w' v (Nm.pt s) ∧ Below w.heap.size w w' := by
  have H1 := Lib.hid (split_any s hl w hm)
  have HL := Lib.hid (fun k (h : k < (Nm.pt s).length) => Nat.le_trans (Nm.pt_part_len s _ (List.getElem_mem h)) hl)
  have hLn : ((Nm.pt s).length : Int) ≤ 4294967281 := by have := Nm.pt_len s; omega
  generalize Nm.pt s = L at *
  go_enter Tryz.func21, Tryz.ntmps21
  go_wp2_with (go_at_call 34; go_must (refine (H1.out).mono ?_; rintro e w1 ⟨rfl, ho, hb⟩))
  have HO := Lib.hid ho
  have HB := Lib.hid hb
  have hlt1 := ho.lt.2
  clear ho hb
  go_loopw [10] (fun i wr => ∃ k : Nat, k ≤ L.length ∧ i = .int .i64 k ∧ Hid (OwnS w.heap.size wr (.slice (some ⟨w.heap.size, 0, none⟩) L.length L.length) L) ∧ Hid (Below w.heap.size w wr)) (fun i _ => L.length - (intOf i).toNat)
  case atStart => exact ⟨0, Nat.zero_le _, rfl, HO, HB⟩
  case round =>
    obtain ⟨k, hk, rfl, HOr, HBr⟩ := hrel
    by_cases hlt : k < L.length
    · have ec := HOr.out.cell k hlt
      have ef := HOr.out.frozen k
      have hltr := HOr.out.lt.2
      have hkl : (k : Int) < (L.length : Int) := by omega
      have hk0 : (0 : Int) ≤ (k : Int) := by omega
      have hP := Lib.hid (clone_str L[k] (HL.out k hlt))
      have HAg := Lib.hid (fun W (h : OwnS w.heap.size W (.slice (some ⟨w.heap.size, 0, none⟩) L.length L.length) L) => h.again k hlt)
      generalize L[k] = p at *
      go_wp2_with (go_at_call 36; go_must (refine (hP.out _).mono ?_; rintro e w1 ⟨rfl, hb1⟩; have ef1 := (HOr.out.below hb1).frozen k; have ec1 := (hb1.cell (p := ⟨w.heap.size, k, none⟩) hltr).trans ec))
      have HO1 := Lib.hid (HOr.out.below hb1)
      have HB1 := Lib.hid (HBr.out.trans (hb1.mono (Nat.le_of_lt hltr)))
      go_roundw
      case rel => exact ⟨k + 1, by omega, by go_num, Lib.hid (HAg.out _ HO1.out), Lib.hid (HB1.out.setCell (Nat.le_refl _) _)⟩
      case measure => simp [intOf]; omega
    · obtain rfl : k = L.length := by omega
      go_wp2
      go_ret
      exact ⟨_, rfl, HOr.out, HBr.out⟩
end Go.Proofs.YtfmbbhcjnidcbaaGreatDoor

namespace Go.Proofs.YtfmbbhcjnidcbaaGreatDoor
open Go.RowKit
open Me

/-- One more text behind what a Builder holds. -/
theorem write_more {base b : Nat} {l : List UInt8} (s : List UInt8) (hl : l.length + s.length ≤ 140737488355328) (r : List UInt8) (hr : r = l ++ s) (W : World) (h : Bld base b l W) (hB : base ≤ W.heap.size) :
    Calls Tryz.prog 71 #[.pointer (some ⟨b, 0, none⟩), .string ⟨s.toArray⟩] W fun e w' => e = .returned (.tuple #[.int .i64 s.length, .nilIface]) ∧ Hid (Bld base b r w') ∧ Below base W w' := by
  subst hr
  refine (write_str h s hl hB).mono ?_
  rintro e w' ⟨rfl, h1, h2⟩
  exact ⟨rfl, Lib.hid h1, h2⟩

set_option maxHeartbeats 1000000 in
theorem join_any (l : List (List UInt8)) (A : Option Addr) (c : Nat) (w : World) (h : Rd w (fun _ => True) A (byS l)) (hj : (Nm.jn l).length ≤ 4294967280) (hn : l.length ≤ 4294967280) :
    Calls Tryz.prog 44 #[.slice A l.length c] w fun e w' => e = .returned (.string ⟨(Nm.jn l).toArray⟩) ∧ Below w.heap.size w w' := by
  have HR := Lib.hid h
  have HJ := Lib.hid (fun k (h : k < l.length) => Nm.jn_take l k h)
  have HJL := Lib.hid (fun k (h : k ≤ l.length) => Nat.le_trans (Nm.jn_take_len l k h) hj)
  have HJ0 := Lib.hid (show Nm.jn (l.take 0) = [] from rfl)
  have HJN : Hid (Nm.jn (l.take l.length) = Nm.jn l) := Lib.hid (by rw [List.take_length])
  clear h hj
  generalize hJf : (fun k => Nm.jn (l.take k)) = J at *
  have hJe : ∀ k, Nm.jn (l.take k) = J k := fun k => by rw [← hJf]
  simp only [hJe] at HJ HJL HJ0 HJN
  clear hJe hJf
  generalize Nm.jn l = R at *
  go_enter Tryz.func44, Tryz.ntmps44
  go_wp2_with fail
  go_loopw [8] (fun i wr => ∃ k : Nat, k ≤ l.length ∧ i = .int .i64 k ∧ Hid (Bld w.heap.size w.heap.size (J k) wr) ∧ Below w.heap.size w wr) (fun i _ => l.length - (intOf i).toNat)
  case atStart => exact ⟨0, Nat.zero_le _, rfl, Lib.hid (by rw [HJ0.out]; exact Bld.new w), (Below.refl _ _).alloc (Nat.le_refl _) _⟩
  case round =>
    obtain ⟨k, hk, rfl, HBl, hbel⟩ := hrel
    have hsz := hbel.size
    by_cases hlt : k < l.length
    · obtain ⟨lb, lo, rfl, hlb, _, hx⟩ := HR.out.lit k (by rw [byS_len]; omega)
      have ec := (hbel.cell (p := ⟨lb, lo + k, none⟩) hlb).trans (hx k _ (byS_get l k hlt))
      clear hx
      have hkl : (k : Int) < (l.length : Int) := by omega
      have hk0 : (0 : Int) ≤ (k : Int) := by omega
      have HJk := Lib.hid (HJ.out k hlt)
      have HL1 := Lib.hid (HJL.out (k + 1) (by omega))
      generalize l[k] = p at *
      by_cases hkp : 0 < k
      · have hkp' : (0 : Int) < (k : Int) := by omega
        have HJk2 : Hid (J (k + 1) = (J k ++ [46]) ++ p) := Lib.hid (by rw [HJk.out, if_pos hkp, List.append_assoc])
        have HLa : Hid ((J k).length + 1 + p.length ≤ 4294967280) := Lib.hid (by have := HL1.out; rw [HJk2.out] at this; simp at this; omega)
        have HWa := Lib.hid (write_more (base := w.heap.size) (b := w.heap.size) (l := J k) [46] (by have := HLa.out; simp; omega) _ rfl)
        have HWb := Lib.hid (write_more (base := w.heap.size) (b := w.heap.size) (l := J k ++ [46]) p (by have := HLa.out; simp; omega) _ HJk2.out)
        clear hkp
        go_wp2_with first
          | (go_at_call 71; ((with_reducible refine (HWa.out wr HBl.out hsz).mono ?_); rintro e w1 ⟨rfl, HB1, hb1⟩))
          | (go_at_call 71; ((with_reducible refine (HWb.out w1 HB1.out (Nat.le_trans hsz hb1.size)).mono ?_); rintro e w2 ⟨rfl, HB2, hb2⟩))
        go_roundw
        case rel => exact ⟨k + 1, by omega, by go_num, HB2, (hbel.trans hb1).trans hb2⟩
        case measure => simp [intOf]; omega
      · obtain rfl : k = 0 := by omega
        rw [Nat.add_zero] at ec
        have HJk2 : Hid (J (0 + 1) = J 0 ++ p) := Lib.hid (by rw [HJk.out]; rfl)
        have HWb := Lib.hid (write_more (base := w.heap.size) (b := w.heap.size) (l := J 0) p (by have := HL1.out; rw [HJk2.out] at this; simp at this; omega) _ HJk2.out)
        go_wp2_with (go_at_call 71; go_must (refine (HWb.out wr HBl.out hsz).mono ?_; rintro e w2 ⟨rfl, HB2, hb2⟩))
        go_roundw
        case rel => exact ⟨0 + 1, by omega, by go_num, HB2, hbel.trans hb2⟩
        case measure => simp [intOf]; omega
    · obtain rfl : k = l.length := by omega
      have HS := Lib.hid (string_str HBl.out hsz)
      rw [HJN.out] at HS
      go_wp2_with (go_at_call 64; go_must (refine (HS.out).mono ?_; rintro e w2 ⟨rfl, hb2⟩))
      go_ret
      exact ⟨rfl, hbel.trans hb2⟩

/-- A tuple of a text and a bool. -/
def strBool (s : List UInt8) (b : Bool) : Ending := .returned (.tuple #[.string ⟨s.toArray⟩, .bool b])
theorem strBool_eq {s s' : List UInt8} {b b' : Bool} (h1 : s = s') (h2 : b = b') : Ending.returned (.tuple #[.string ⟨s.toArray⟩, .bool b]) = strBool s' b' := by rw [h1, h2]; rfl

end Go.Proofs.YtfmbbhcjnidcbaaGreatDoor
