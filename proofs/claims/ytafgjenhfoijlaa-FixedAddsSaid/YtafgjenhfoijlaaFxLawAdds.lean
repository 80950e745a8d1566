/-
  FixedAdds: for every slice of Vals (nil too, of whatever length) the law's call returns true and leaves its argument as it was. No condition.
-/
import Derived.Test.YtafgjenhfoijlaaFxMul
import Derived.Test.YtafgjenhfoijlaaFxAdd
import Derived.Deep.Slices
import Derived.Laws.AppendOwnNone
import Derived.OwnWalk
import Derived.ProofKit
import Derived.OpenShut
import Derived.ChangeOld
import Derived.Below
import Derived.Lib.SmallJoins
import Derived.ChangeArms
namespace Go.Proofs.Ytafgjenhfoijlaa
open Go.RowKit Go.Sort
open Fx (Vl)

theorem infoVal : (Try.prog.info? 23).map (fun i => (i.zero, i.size, i.bytes)) = some (some (.agg #[.bool false, .int .i64 0]), 2, 16) := by kernel_rfl

def cellsOf (l : List Vl) : List Value := l.flatMap fun v => [.bool v.ok, .int .i64 v.n]
theorem cellsOf_length (l : List Vl) : (cellsOf l).length = l.length * 2 := by
  induction l with
  | nil => rfl
  | cons v l ih => simp only [cellsOf, List.flatMap_cons, List.length_append, List.length_cons, List.length_nil] at *; omega
theorem cellsOf_even (l : List Vl) : ∀ i (h : i < l.length), (cellsOf l)[i * 2]? = some (.bool l[i].ok) := by
  induction l with
  | nil => intro i h; cases h
  | cons v l ih =>
    intro i h
    cases i with
    | zero => rfl
    | succ i =>
      have := ih i (by simpa using h)
      have e : (i + 1) * 2 = i * 2 + 1 + 1 := by omega
      rw [e]
      show (cellsOf l)[i * 2]? = _
      exact this
theorem cellsOf_odd (l : List Vl) : ∀ i (h : i < l.length), (cellsOf l)[i * 2 + 1]? = some (.int .i64 l[i].n) := by
  induction l with
  | nil => intro i h; cases h
  | cons v l ih =>
    intro i h
    cases i with
    | zero => rfl
    | succ i =>
      have := ih i (by simpa using h)
      have e : (i + 1) * 2 + 1 = i * 2 + 1 + 1 + 1 := by omega
      rw [e]
      show (cellsOf l)[i * 2 + 1]? = _
      exact this
theorem cellsOf_one (l : List Vl) : ∀ u ∈ cellsOf l, u.oneCell' = true := by
  intro u hu
  simp only [cellsOf, List.mem_flatMap] at hu
  obtain ⟨v, _, hv⟩ := hu
  simp at hv
  rcases hv with rfl | rfl <;> rfl
theorem cellsOf_at {w : World} {b off : Nat} {l : List Vl} (hv : Vals w b off l) : ∀ j u, (cellsOf l)[j]? = some u → w.cell? ((⟨b, off, none⟩ : Addr).add j) = some u := by
  intro j u hj
  have hlt : j < l.length * 2 := by
    have := (List.getElem?_eq_some_iff.1 hj).1
    rwa [cellsOf_length] at this
  rw [show (⟨b, off, none⟩ : Addr).add j = ⟨b, off + j, none⟩ by simp [Addr.add]]
  by_cases h2 : j % 2 = 0
  · have e : j = j / 2 * 2 := by omega
    have h := cellsOf_even l (j / 2) (by omega)
    rw [← e, hj] at h
    rw [e, hv.ok (j / 2) (by omega), h]
  · have e : j = j / 2 * 2 + 1 := by omega
    have h := cellsOf_odd l (j / 2) (by omega)
    rw [← e, hj] at h
    rw [e, ← Nat.add_assoc, hv.n (j / 2) (by omega), h]

/-- What an append left, read as a row of Vals. -/
theorem vals_owned {w : World} {base : Nat} {T : TypeId} {v : Value} {m : Nat} {l : List Vl} (h : w.ownsRow base T 2 v m (cellsOf l)) (hn : v ≠ .slice none 0 0) :
    ∃ g cap, v = .slice (some ⟨g, 0, none⟩) m cap ∧ base ≤ g ∧ Vals w g 0 l := by
  obtain ⟨hlen, h | ⟨g, cap, cur, rfl, hb, hg, hle, hm, hs, hx⟩⟩ := h
  · exact absurd h.1 hn
  · refine ⟨g, cap, rfl, hb, (Array.getElem?_eq_some_iff.1 hg).1, ?_, ?_⟩
    · intro i hi
      rw [Nat.zero_add, ← cellsOf_even l i hi, ← hx, List.getElem?_take, if_pos (by rw [cellsOf_length] at hlen; omega)]
      simp [World.cell?, hg]
    · intro i hi
      rw [Nat.zero_add, ← cellsOf_odd l i hi, ← hx, List.getElem?_take, if_pos (by rw [cellsOf_length] at hlen; omega)]
      simp [World.cell?, hg]

set_option maxHeartbeats 1000000 in
theorem adds_some (l : List Vl) (hl : l.length ≤ 200) (b off cap : Nat) (w : World) (hv : Vals w b off l) :
    Calls Try.prog 4 #[.slice (some ⟨b, off, none⟩) l.length cap] w fun e w' => e = .returned (.bool true) ∧ Below w.heap.size w w' := by
  obtain ⟨i0, hi, hz0, hz1, hz2⟩ := info_parts infoVal
  go_enter Try.func4, Try.ntmps4
  go_wp2_with (at_builtin; refine wpList_append_own _ rfl (.tmp 9) (.tmp 10) 28 rfl w.heap.size 23 i0 (.agg #[.bool false, .int .i64 0]) 2 16 Try.underlying28 hi hz0 hz1 hz2 rfl (by decide) _ 0 [] rfl (World.ownsRow_made w #[] 0 (Nat.le_refl _) (Nat.zero_le _) rfl) ⟨b, off, none⟩ l.length cap (cellsOf l) rfl (cellsOf_length l) ?c1 (cellsOf_one l) ?c3 ?c4 ?c5 ?_)
  case c1 => exact cellsOf_at (hv.below ((Below.refl _ _).alloc (Nat.le_refl _) _))
  case c3 => unfold maxLen; omega
  case c4 => omega
  case c5 => simp
  intro v' w1 hown hgrow hnil
  obtain ⟨g, cap2, rfl, hg, hm⟩ := vals_owned hown hnil
  have hb1 : Below w.heap.size w w1 := ((Below.refl _ _).alloc (Nat.le_refl _) _).grown hgrow (by simp) (fun k hk => by simp [Value.ownBlock] at hk; omega)
  have hv1 := hv.below hb1
  clear hown hgrow hnil
  go_wp2_with (go_at_call 19; go_must (refine (add_some l (by omega) g 0 cap2 _ hm).mono ?_; rintro e w' ⟨rfl, hb⟩; obtain ⟨hc, hf⟩ := bcell hb; (try have hz0 : w.heap.size < w'.heap.size := Nat.lt_of_lt_of_le (by first | assumption | (simp; done) | (simp; omega)) hb.size); (try have hz1 : w.heap.size + 1 < w'.heap.size := Nat.lt_of_lt_of_le (by first | assumption | (simp; done) | (simp; omega)) hb.size); (try have hz2 : w.heap.size + 1 + 1 < w'.heap.size := Nat.lt_of_lt_of_le (by first | assumption | (simp; done) | (simp; omega)) hb.size); have hz := hb.size; (try simp at hz)))
  have hbm := hm.below hb
  have hbl := hv1.below hb
  go_loopw [5] (fun i wr => ∃ k : Nat, k ≤ l.length ∧ i = .int .i64 k ∧ Below (w'.heap.size + 1) (w'.alloc (.cells #[.bool (sum l).ok, .int .i64 (sum l).n] 23)) wr) (fun i _ => l.length - (intOf i).toNat)
  case atStart => exact ⟨0, Nat.zero_le _, rfl, Below.refl _ _⟩
  case round =>
    obtain ⟨k, hk, rfl, hR⟩ := hrel
    by_cases hlt : k < l.length
    · have ec0 : wr.cell? ⟨b, off + k * 2, none⟩ = some (.bool l[k].ok) := (hR.cell (p := ⟨b, off + k * 2, none⟩) (Nat.lt_succ_of_lt hbl.lt)).trans (((Below.refl w'.heap.size w').alloc (Nat.le_refl _) _).cell (p := ⟨b, off + k * 2, none⟩) hbl.lt |>.trans (hbl.ok k hlt))
      have ec1 : wr.cell? ⟨b, off + k * 2 + 1, none⟩ = some (.int .i64 l[k].n) := (hR.cell (p := ⟨b, off + k * 2 + 1, none⟩) (Nat.lt_succ_of_lt hbl.lt)).trans (((Below.refl w'.heap.size w').alloc (Nat.le_refl _) _).cell (p := ⟨b, off + k * 2 + 1, none⟩) hbl.lt |>.trans (hbl.n k hlt))
      have em0 : wr.cell? ⟨g, k * 2, none⟩ = some (.bool l[k].ok) := (hR.cell (p := ⟨g, k * 2, none⟩) (Nat.lt_succ_of_lt hbm.lt)).trans (((Below.refl w'.heap.size w').alloc (Nat.le_refl _) _).cell (p := ⟨g, k * 2, none⟩) hbm.lt |>.trans (by have := hbm.ok k hlt; rwa [Nat.zero_add] at this))
      have em1 : wr.cell? ⟨g, k * 2 + 1, none⟩ = some (.int .i64 l[k].n) := (hR.cell (p := ⟨g, k * 2 + 1, none⟩) (Nat.lt_succ_of_lt hbm.lt)).trans (((Below.refl w'.heap.size w').alloc (Nat.le_refl _) _).cell (p := ⟨g, k * 2 + 1, none⟩) hbm.lt |>.trans (by have := hbm.n k hlt; rwa [Nat.zero_add] at this))
      generalize l[k] = ek at *
      obtain ⟨eo, en⟩ := ek
      have hk0 : (0 : Int) ≤ (k : Int) := by omega
      have hkl : (k : Int) < (l.length : Int) := by omega
      have HR := Lib.hid hR
      clear hR
      go_wp2_with fail
      go_quiet (fail)
      go_wp2
      go_roundw
      case rel => exact ⟨k + 1, by omega, by go_num, HR.out.trans (below_drewN _ _ _)⟩
      case measure => simp [intOf]; omega
    · have hz' := hb.size
      have hvr : Vals wr b off l := (hbl.below ((Below.refl _ _).alloc (Nat.le_refl _) _)).below (hR.mono (by simp))
      have s0 : wr.cell? ⟨w'.heap.size, 0, none⟩ = some (.bool (sum l).ok) := (hR.cell (p := ⟨w'.heap.size, 0, none⟩) (Nat.lt_succ_self _)).trans (by simp [go_sem])
      have s1 : wr.cell? ⟨w'.heap.size, 1, none⟩ = some (.int .i64 (sum l).n) := (hR.cell (p := ⟨w'.heap.size, 1, none⟩) (Nat.lt_succ_self _)).trans (by simp [go_sem])
      have hlt2 := World.block_lt_of_cell? wr _ s0
      have hwr : Below w.heap.size w wr := ((hb1.trans (hb.mono hb1.size)).alloc (Nat.le_trans hb1.size hb.size) _).trans (hR.mono (Nat.le_succ_of_le (Nat.le_trans hb1.size hb.size)))
      clear hR
      obtain ⟨kc, kf⟩ := kgrown wr
      generalize hsl : sum l = sl at *
      have HSL := Lib.hid hsl
      clear hsl
      obtain ⟨so, sn⟩ := sl
      have HA : Hid (∀ d os, Calls Try.prog 20 #[.slice (some ⟨b, off, none⟩) l.length cap] (grow (redrawn wr d) os) fun e w' => e = .returned (.agg #[.bool so, .int .i64 sn]) ∧ Below (grow (redrawn wr d) os).heap.size (grow (redrawn wr d) os) w') := by
        apply Lib.hid; intro d os
        have := refAdd_some l (by omega) b off cap _ (hvr.below (below_regrown wr d os))
        rw [HSL.out] at this
        exact this
      have hkk : k = l.length := by omega
      subst hkk
      go_wp2_with fail
      refine wp_region_quiet_below (by kernel_rfl) (by kernel_rfl) ?_
      repeat (quiet_step (first
        | (go_at_call 20; exact Calls.regrown_of (HA.out _ _))
        | (go_at_call 18; exact Calls.regrown_of (known_any _))))
      refine wpQuiet_nil ?_
      intro _ hw'
      obtain ⟨⟨dq, osq⟩, hw''⟩ := hw'
      subst hw''
      go_wp2
      go_ret
      exact ⟨rfl, hwr.trans ((below_regrown wr dq osq).mono hwr.size)⟩

set_option maxHeartbeats 1000000 in
theorem add_zero (x : Option Addr) (cap : Nat) (w : World) :
    Calls Try.prog 19 #[.slice x 0 cap] w fun e w' => e = .returned (.agg #[.bool true, .int .i64 0]) ∧ Below w.heap.size w w' := by
  have O0 : Hid (∀ W, Calls Try.prog 12 #[.int .i64 0] W fun e w' => e = .returned (.agg #[.bool true, .int .i64 0]) ∧ Below W.heap.size W w') := Lib.hid fun W => of_any 0 W
  go_enter Try.func19, Try.ntmps19
  go_wp2_with (go_at_call 12; go_must (refine (O0.out _).mono ?_; rintro e w' ⟨rfl, hb⟩; obtain ⟨hc, hf⟩ := bcell hb; (try have hz0 : w.heap.size < w'.heap.size := Nat.lt_of_lt_of_le (by first | assumption | (simp; done) | (simp; omega)) hb.size); (try have hz1 : w.heap.size + 1 < w'.heap.size := Nat.lt_of_lt_of_le (by first | assumption | (simp; done) | (simp; omega)) hb.size); (try have hz2 : w.heap.size + 1 + 1 < w'.heap.size := Nat.lt_of_lt_of_le (by first | assumption | (simp; done) | (simp; omega)) hb.size); have hz := hb.size; (try simp at hz)))
  go_loopw [9] (fun i wr => i = .int .i64 0 ∧ AddRel w wr w.heap.size w'.heap.size ⟨true, 0⟩) (fun i _ => 0)
  case atStart => exact ⟨rfl, AddRel.start hb⟩
  case round =>
    obtain ⟨rfl, hR⟩ := hrel
    have hsz := hR.sz
    have rc0 := hR.rc0
    have rc1 := hR.rc1
    have rf0 := hR.rf0
    have rf1 := hR.rf1
    have sc0 := hR.sc0
    have sc1 := hR.sc1
    have hbb := hR.below
    clear hR
    go_wp2
    exact bodyPost_ret (v := .agg #[.bool true, .int .i64 0]) (by simp [results, Try.results19, go_sem, *]) rfl ⟨rfl, (by repeat (first | exact Below.refl _ _ | assumption | refine Below.setCell ?_ (by first | (simp; done) | omega | (simp; omega) | (simp at *; omega)) _ | refine Below.alloc ?_ (by first | (simp; done) | omega | (simp; omega) | (simp at *; omega)) _ | refine Below.drew ?_ | (refine Below.trans ?_ (Below.mono (by assumption) (by first | (simp; done) | omega | (simp; omega) | (simp at *; omega)))) | (refine Below.trans ?_ (Below.mono (below_regrown _ _ _) (by first | (simp; done) | omega | (simp; omega) | (simp at *; omega))))))⟩

set_option maxHeartbeats 1000000 in
theorem refAdd_zero (x : Option Addr) (cap : Nat) (w : World) :
    Calls Try.prog 20 #[.slice x 0 cap] w fun e w' => e = .returned (.agg #[.bool true, .int .i64 0]) ∧ Below w.heap.size w w' := by
  have O0 : Hid (∀ W, Calls Try.prog 13 #[.int .i64 0] W fun e w' => e = .returned (.agg #[.bool true, .int .i64 0]) ∧ Below W.heap.size W w') := Lib.hid fun W => refOf_any 0 W
  go_enter Try.func20, Try.ntmps20
  go_wp2_with (go_at_call 13; go_must (refine (O0.out _).mono ?_; rintro e w' ⟨rfl, hb⟩; obtain ⟨hc, hf⟩ := bcell hb; (try have hz0 : w.heap.size < w'.heap.size := Nat.lt_of_lt_of_le (by first | assumption | (simp; done) | (simp; omega)) hb.size); (try have hz1 : w.heap.size + 1 < w'.heap.size := Nat.lt_of_lt_of_le (by first | assumption | (simp; done) | (simp; omega)) hb.size); (try have hz2 : w.heap.size + 1 + 1 < w'.heap.size := Nat.lt_of_lt_of_le (by first | assumption | (simp; done) | (simp; omega)) hb.size); have hz := hb.size; (try simp at hz)))
  go_loopw [4] (fun i wr => i = .int .i64 0 ∧ AddRel w wr w.heap.size w'.heap.size ⟨true, 0⟩) (fun i _ => 0)
  case atStart => exact ⟨rfl, AddRel.start hb⟩
  case round =>
    obtain ⟨rfl, hR⟩ := hrel
    have hsz := hR.sz
    have rc0 := hR.rc0
    have rc1 := hR.rc1
    have rf0 := hR.rf0
    have rf1 := hR.rf1
    have sc0 := hR.sc0
    have sc1 := hR.sc1
    have hbb := hR.below
    clear hR
    go_wp2
    exact bodyPost_ret (v := .agg #[.bool true, .int .i64 0]) (by simp [results, Try.results20, go_sem, *]) rfl ⟨rfl, (by repeat (first | exact Below.refl _ _ | assumption | refine Below.setCell ?_ (by first | (simp; done) | omega | (simp; omega) | (simp at *; omega)) _ | refine Below.alloc ?_ (by first | (simp; done) | omega | (simp; omega) | (simp at *; omega)) _ | refine Below.drew ?_ | (refine Below.trans ?_ (Below.mono (by assumption) (by first | (simp; done) | omega | (simp; omega) | (simp at *; omega)))) | (refine Below.trans ?_ (Below.mono (below_regrown _ _ _) (by first | (simp; done) | omega | (simp; omega) | (simp at *; omega))))))⟩

set_option maxHeartbeats 1000000 in
theorem adds_long (x : Option Addr) (len cap : Nat) (hl : 200 < len) (w : World) :
    Calls Try.prog 4 #[.slice x len cap] w fun e w' => e = .returned (.bool true) ∧ Below w.heap.size w w' := by
  have hl2 : (200 : Int) < (len : Int) := by omega
  go_enter Try.func4, Try.ntmps4
  go_wp2
  go_ret
  exact ⟨rfl, Below.refl _ _⟩

set_option maxHeartbeats 1000000 in
theorem adds_zero_some (x : Addr) (cap : Nat) (w : World) :
    Calls Try.prog 4 #[.slice (some x) 0 cap] w fun e w' => e = .returned (.bool true) ∧ Below w.heap.size w w' := by
  go_enter Try.func4, Try.ntmps4
  go_wp2_with (go_at_call 19; go_must (refine (add_zero _ _ _).mono ?_; rintro e w' ⟨rfl, hb⟩; obtain ⟨hc, hf⟩ := bcell hb; (try have hz0 : w.heap.size < w'.heap.size := Nat.lt_of_lt_of_le (by first | assumption | (simp; done) | (simp; omega)) hb.size); (try have hz1 : w.heap.size + 1 < w'.heap.size := Nat.lt_of_lt_of_le (by first | assumption | (simp; done) | (simp; omega)) hb.size); (try have hz2 : w.heap.size + 1 + 1 < w'.heap.size := Nat.lt_of_lt_of_le (by first | assumption | (simp; done) | (simp; omega)) hb.size); have hz := hb.size; (try simp at hz)))
  have hbw : Below w.heap.size w w' := by
    refine Below.trans ?_ (Below.mono hb (by simp))
    exact (Below.refl _ _).alloc (Nat.le_refl _) _
  go_loopw [5] (fun i wr => i = .int .i64 0 ∧ Below (w'.heap.size + 1) (w'.alloc (.cells #[.bool true, .int .i64 0] 23)) wr) (fun i _ => 0)
  case atStart => exact ⟨rfl, Below.refl _ _⟩
  case round =>
    obtain ⟨rfl, hR⟩ := hrel
    have s0 : wr.cell? ⟨w'.heap.size, 0, none⟩ = some (.bool true) := (hR.cell (p := ⟨w'.heap.size, 0, none⟩) (Nat.lt_succ_self _)).trans (by simp [go_sem])
    have s1 : wr.cell? ⟨w'.heap.size, 1, none⟩ = some (.int .i64 0) := (hR.cell (p := ⟨w'.heap.size, 1, none⟩) (Nat.lt_succ_self _)).trans (by simp [go_sem])
    have hlt2 := World.block_lt_of_cell? wr _ s0
    have hwr : Below w.heap.size w wr := (hbw.alloc hbw.size _).trans (hR.mono (Nat.le_succ_of_le hbw.size))
    clear hR hc hf
    obtain ⟨kc, kf⟩ := kgrown wr
    go_wp2_with fail
    refine wp_region_quiet_below (by kernel_rfl) (by kernel_rfl) ?_
    repeat (quiet_step (first
      | (go_at_call 20; exact Calls.regrown_of (refAdd_zero _ _ _))
      | (go_at_call 18; exact Calls.regrown_of (known_any _))))
    refine wpQuiet_nil ?_
    intro _ hw'
    obtain ⟨⟨dq, osq⟩, hw''⟩ := hw'
    subst hw''
    go_wp2
    go_ret
    exact ⟨rfl, hwr.trans ((below_regrown wr dq osq).mono hwr.size)⟩

set_option maxHeartbeats 1000000 in
theorem adds_zero_none (w : World) :
    Calls Try.prog 4 #[.slice none 0 0] w fun e w' => e = .returned (.bool true) ∧ Below w.heap.size w w' := by
  go_enter Try.func4, Try.ntmps4
  go_wp2_with (go_at_call 19; go_must (refine (add_zero _ _ _).mono ?_; rintro e w' ⟨rfl, hb⟩; obtain ⟨hc, hf⟩ := bcell hb; (try have hz0 : w.heap.size < w'.heap.size := Nat.lt_of_lt_of_le (by first | assumption | (simp; done) | (simp; omega)) hb.size); (try have hz1 : w.heap.size + 1 < w'.heap.size := Nat.lt_of_lt_of_le (by first | assumption | (simp; done) | (simp; omega)) hb.size); (try have hz2 : w.heap.size + 1 + 1 < w'.heap.size := Nat.lt_of_lt_of_le (by first | assumption | (simp; done) | (simp; omega)) hb.size); have hz := hb.size; (try simp at hz)))
  have hbw : Below w.heap.size w w' := by
    refine Below.trans ?_ (Below.mono hb (by simp))
    exact (Below.refl _ _).alloc (Nat.le_refl _) _
  go_loopw [5] (fun i wr => i = .int .i64 0 ∧ Below (w'.heap.size + 1) (w'.alloc (.cells #[.bool true, .int .i64 0] 23)) wr) (fun i _ => 0)
  case atStart => exact ⟨rfl, Below.refl _ _⟩
  case round =>
    obtain ⟨rfl, hR⟩ := hrel
    have s0 : wr.cell? ⟨w'.heap.size, 0, none⟩ = some (.bool true) := (hR.cell (p := ⟨w'.heap.size, 0, none⟩) (Nat.lt_succ_self _)).trans (by simp [go_sem])
    have s1 : wr.cell? ⟨w'.heap.size, 1, none⟩ = some (.int .i64 0) := (hR.cell (p := ⟨w'.heap.size, 1, none⟩) (Nat.lt_succ_self _)).trans (by simp [go_sem])
    have hlt2 := World.block_lt_of_cell? wr _ s0
    have hwr : Below w.heap.size w wr := (hbw.alloc hbw.size _).trans (hR.mono (Nat.le_succ_of_le hbw.size))
    clear hR hc hf
    obtain ⟨kc, kf⟩ := kgrown wr
    go_wp2_with fail
    refine wp_region_quiet_below (by kernel_rfl) (by kernel_rfl) ?_
    repeat (quiet_step (first
      | (go_at_call 20; exact Calls.regrown_of (refAdd_zero _ _ _))
      | (go_at_call 18; exact Calls.regrown_of (known_any _))))
    refine wpQuiet_nil ?_
    intro _ hw'
    obtain ⟨⟨dq, osq⟩, hw''⟩ := hw'
    subst hw''
    go_wp2
    go_ret
    exact ⟨rfl, hwr.trans ((below_regrown wr dq osq).mono hwr.size)⟩

theorem adN (b off j : Nat) : (⟨b, off, none⟩ : Addr).add j = ⟨b, off + j, none⟩ := by simp [Addr.add]

/-- Every row of Vals that comes in. -/
theorem adds_any (x : Option Addr) (len cap : Nat) (w : World) (hx : (x = none ∧ len = 0 ∧ cap = 0) ∨ (∃ a : Addr, x = some a ∧ ∀ i, i < len → ∃ (ok : Bool) (n : Int), w.cell? (a.add (i * 2)) = some (.bool ok) ∧ w.cell? (a.add (i * 2 + 1)) = some (.int .i64 n))) :
    Calls Try.prog 4 #[.slice x len cap] w fun e w' => e = .returned (.bool true) ∧ Below w.heap.size w w' := by
  by_cases hl : 200 < len
  · exact adds_long x len cap hl w
  · rcases hx with ⟨rfl, rfl, rfl⟩ | ⟨a, rfl, hc⟩
    · exact adds_zero_none w
    · by_cases h0 : len = 0
      · subst h0; exact adds_zero_some a cap w
      · obtain ⟨b, off, spot⟩ := a
        obtain ⟨ok0, n0, hk0, _⟩ := hc 0 (by omega)
        have hspot : spot = none := by simpa [Addr.add] using World.cell?_spot hk0
        subst hspot
        obtain ⟨l, hlen, hl2⟩ : ∃ l : List Vl, l.length = len ∧ ∀ i (h : i < l.length), w.cell? ⟨b, off + i * 2, none⟩ = some (.bool l[i].ok) ∧ w.cell? ⟨b, off + i * 2 + 1, none⟩ = some (.int .i64 l[i].n) := by
          have key : ∀ m, m ≤ len → ∃ l : List Vl, l.length = m ∧ ∀ i (h : i < l.length), w.cell? ⟨b, off + i * 2, none⟩ = some (.bool l[i].ok) ∧ w.cell? ⟨b, off + i * 2 + 1, none⟩ = some (.int .i64 l[i].n) := by
            intro m
            induction m with
            | zero => intro _; exact ⟨[], rfl, fun i h => by cases h⟩
            | succ m ih =>
              intro hm
              obtain ⟨l, e, hi⟩ := ih (by omega)
              obtain ⟨ok, n, c0, c1⟩ := hc m (by omega)
              refine ⟨l ++ [⟨ok, n⟩], by simp [e], fun i h => ?_⟩
              by_cases him : i < l.length
              · rw [List.getElem_append_left him]; exact hi i him
              · have him2 : i = l.length := by simp at h; omega
                subst him2
                rw [List.getElem_append_right (Nat.le_refl _)]
                rw [adN] at c0 c1
                simp only [e, Nat.sub_self, List.getElem_cons_zero]
                exact ⟨c0, by rw [Nat.add_assoc]; exact c1⟩
          exact key len (Nat.le_refl _)
        subst hlen
        exact adds_some l (by omega) b off cap w ⟨World.block_lt_of_cell? w _ (hl2 0 (by omega)).1, fun i h => (hl2 i h).1, fun i h => (hl2 i h).2⟩

namespace RowFixedAdds
open Go.ChangeShapes Go.WideShapes Go.ChangeAt Go.RowKit Go.Deep
theorem own : ownKnob Try.prog.godebug = none := by kernel_rfl
theorem laidOut : laidOutB Try.prog = true := by kernel_rfl

theorem opened {H : Type} {enc : TypeId × Value → H} {w : World} {base : Nat} {spare : Nat → Bool} {held : Bool} {fuel : Nat} {x : Option Addr} {len cap : Nat} {y : DataW H × List MemPlace}
    (h : DataW.trod enc Try.prog w base spare held fuel 28 [.slice x len cap] = some y) :
    (x = none ∧ len = 0 ∧ cap = 0) ∨ (∃ a : Addr, x = some a ∧ ∀ i, i < len → ∃ (ok : Bool) (n : Int), w.cell? (a.add (i * 2)) = some (.bool ok) ∧ w.cell? (a.add (i * 2 + 1)) = some (.int .i64 n)) := by
  rcases open_slice Try.underlying28 h with ⟨hcs, _⟩ | ⟨a, len', cap', m, n, D, Pl, hcs, _, hl, _, hm, _, hi⟩
  · simp at hcs
    exact .inl ⟨hcs.1, hcs.2.1, hcs.2.2⟩
  · simp at hcs
    obtain ⟨rfl, rfl, rfl⟩ := hcs
    refine .inr ⟨a, rfl, fun i hil => ?_⟩
    have him : i < m := by rw [hm]; split <;> omega
    obtain ⟨cs', h1, h2⟩ := hi i him
    have hC : Try.prog.cellsOf 23 = 2 := by kernel_rfl
    rw [hC] at h1
    obtain ⟨_, hlen, hat⟩ := World.cells?_some h1
    match cs', hlen with
    | [c0, c1], _ =>
      obtain ⟨xs, n', _, _, _, _, hf⟩ := DataW.trod_struct Try.underlying23 h2
      have g0 := hf 0 _ rfl
      have g1 := hf 1 _ rfl
      have hb : Try.prog.cellsOf 4 = 1 := by kernel_rfl
      have hn : Try.prog.cellsOf 3 = 1 := by kernel_rfl
      have hx2 : xs.length = 2 := by assumption
      have g0' : DataW.trod enc Try.prog w base spare held n' 4 [c0] = some (xs[0]'(by omega)) := by
        have e : xs[0]? = some (xs[0]'(by omega)) := List.getElem?_eq_getElem (by omega)
        rw [← e, ← g0]
        show _ = DataW.trod enc Try.prog w base spare held n' 4 (List.take (Try.prog.cellsOf 4) (List.drop 0 [c0, c1]))
        rw [hb]
        rfl
      have g1' : DataW.trod enc Try.prog w base spare held n' 3 [c1] = some (xs[1]'(by omega)) := by
        have e : xs[1]? = some (xs[1]'(by omega)) := List.getElem?_eq_getElem (by omega)
        rw [← e, ← g1]
        show _ = DataW.trod enc Try.prog w base spare held n' 3 (List.take (Try.prog.cellsOf 3) (List.drop 1 [c0, c1]))
        rw [hn]
        rfl
      obtain ⟨ok, e0, _⟩ := DataW.trod_bool Try.underlying4 g0'
      obtain ⟨v, e1, _, _⟩ := DataW.trod_int Try.underlying3 g1'
      simp at e0 e1
      subst e0 e1
      refine ⟨ok, v, ?_, ?_⟩
      · have := hat 0 (by omega)
        simpa [Addr.add] using this
      · have := hat 1 (by omega)
        rw [Go.Deep.add_add] at this
        simpa using this

set_option maxRecDepth 100000 in
theorem lifted (os : Os) (started : os.Started) (H : Type) (enc : TypeId × Value → H) :
    ReturnsInHanded {} Try.checked os 4 .any (Rows.fixedAddsSpec.pre6 enc Try.prog Try.f4 Rows.fixedAddsRow.domain false) (Rows.fixedAddsSpec.post enc Try.prog Try.f4 false true false false) := by
  refine returnsInHanded_of_change (C := Try.checked) own started (by kernel_rfl) Try.func4
    (ChangeSpec.witness6 (enc := enc) (C := Try.checked) false ⟨#[], #[.slice none 0 0], []⟩ 8 (by kernel_rfl) (by kernel_rfl) (by kernel_rfl) (by kernel_rfl)) ?_
  intro W base args ds gs before hval0 hW hcnd _
  have hval : ∀ (j : Nat) t v, Try.f4.params[j]? = some t → args[j]? = some v → Value.okWide Try.prog W .any base t v := hval0
  have hW' := hW
  obtain ⟨p, q, hA0, hV, rfl, hfz, hnd⟩ := hW
  have hA : DataW.TrodAll enc Try.prog W 0 (fun _ => true) true Try.f4.params.toList args.toList ds p := hA0
  rw [Try.params4] at hA hval
  obtain ⟨v0, vs0, d0, ds0, p0, q0, hargs, rfl, rfl, h0, r0⟩ := trodAll_cons hA
  obtain ⟨rfl, rfl, rfl⟩ := trodAll_nil r0
  obtain rfl : args = #[v0] := by cases args; simp_all
  obtain ⟨rfl, rfl⟩ := trodVars_none hV
  obtain ⟨a0, len0, cap0, rfl⟩ := okWide_slice Try.underlying28 (hval 0 28 v0 rfl rfl)
  have k0 := h0
  have lt0 : ∀ x ∈ p0, x.block < W.heap.size := by obtain ⟨m, hm⟩ := k0; exact DataW.trod_lt m _ _ _ hm
  obtain ⟨fuel, hf⟩ := h0
  have hop := opened (by simpa [Value.cells] using hf)
  clear hA0 hval0
  refine (adds_any a0 len0 cap0 W hop).mono fun e W' ⟨he, bel⟩ => ?_
  subst he
  exact ⟨_, rfl, _, _, _, [], _, [], hW', trodAll_mk1 (shut_bool Try.underlying4 _), (trodAll_cons_mk (Below.trod laidOut (by kernel_rfl) (of_decide_eq_true (by kernel_rfl)) k0 bel lt0) trodAll_mk0), rfl, bel.frame _, fun h => by cases h⟩
end RowFixedAdds

theorem fixedAdds_holds : Rows.FixedAddsSaid :=
  OpenClaim.holds_of_wide 4 Try.f4 rfl rfl rfl rfl rfl rfl rfl ⟨rfl, rfl, rfl, rfl, rfl⟩ rfl rfl rfl rfl rfl (by kernel_rfl) Try.func4 (by kernel_rfl)
    (of_decide_eq_true (by kernel_rfl)) (by unfold Func.isWrapper; first | (rw [if_pos (by decide +kernel)]; kernel_rfl) | (rw [if_neg (by decide +kernel)]; exact ⟨rfl, rfl⟩))
    (fun os started H enc _ => RowFixedAdds.lifted os started H enc)

#print axioms fixedAdds_holds
end Go.Proofs.Ytafgjenhfoijlaa
