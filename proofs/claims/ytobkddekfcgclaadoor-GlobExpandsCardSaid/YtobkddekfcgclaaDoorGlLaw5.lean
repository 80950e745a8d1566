/-
  WALKS: chapter 9's laws: the statement on what patterns are expanded to.
-/
import Derived.Test.YtobkddekfcgclaaDoorGlLaw
import Derived.Test.YtobkddekfcgclaaDoorGlRExp
namespace Go.Proofs.YtobkddekfcgclaaDoor
open Go.RowKit
open Me

set_option maxHeartbeats 2000000 in
theorem lawExpands9 (s : List UInt8) (w : World) (hm : Mx w) :
    Calls Tryd.prog 3 #[.string ⟨s.toArray⟩] w fun e w' => e = .returned (.bool true) ∧ Below w.heap.size w w' := by
  have hs : (⟨s.toArray⟩ : ByteArray).size = s.length := by show s.toArray.size = _; simp
  by_cases h4 : 200 < s.length
  · have h4' : (200 : Int) < (s.length : Int) := by omega
    clear h4
    go_enter Tryd.func3, Tryd.ntmps3
    go_wp2_with fail
    go_ret
    exact ⟨rfl, Below.refl _ _⟩
  · have h4' : ¬ (200 : Int) < (s.length : Int) := by omega
    have HM : Hid (∀ W, Below w.heap.size w W → Mx W) := Lib.hid fun W h => hm.below h
    obtain ⟨L, hL⟩ : ∃ L, Gl.bal 0 s = true → Gl.Gr false s L := by
      cases hb : Gl.bal 0 s
      · exact ⟨[], fun h => by cases h⟩
      · obtain ⟨L, h⟩ := Gl.parse s hb
        exact ⟨L, fun _ => h⟩
    have hb5 : Gl.expErr s L = 0 → L.length ≤ 4294967296 := fun h => by
      unfold Gl.expErr at h
      by_cases h1 : 4096 < s.length ∨ Gl.bal 0 s = false
      · rw [if_pos h1] at h; cases h
      · rw [if_neg h1] at h
        by_cases h2 : 512 < L.length
        · rw [if_pos h2] at h; cases h
        · omega
    have HP := Lib.hid ((expand_any s L hL (by omega) w hm).mono fun e w' h => h.both)
    have HRP := Lib.hid (fun W => (refExpand_any s L hL (by omega) W).mono fun e w' h => h.both)
    have hLl : (if Gl.expErr s L = 0 then L else []).length ≤ 4294967296 := by
      split
      · rename_i h; exact hb5 h
      · exact Nat.zero_le _
    have HT := Lib.hid (fun A A' c c' => texts_same (if Gl.expErr s L = 0 then L else []) A A' c c' hLl)
    have HRd := Lib.hid (fun base W v => @rd_own base W v (if Gl.expErr s L = 0 then L else []))
    clear h4 hm hLl hb5 hL
    generalize (if Gl.expErr s L = 0 then L else []) = L2 at *
    generalize Gl.expErr s L = er at *
    have hself : (er == er) = true := by simp
    go_enter Tryd.func3, Tryd.ntmps3
    go_wp2_with (go_at_call 9; go_must (refine (HP.out).mono ?_; rintro e w1 ⟨v, rfl, ho1, hb1⟩; obtain ⟨A, c, rfl, hr1⟩ := HRd.out _ _ _ ho1))
    have HR1 := Lib.hid hr1
    clear ho1 hr1
    go_wp2_with first
      | (go_at_call 10; go_must (refine (HRP.out _).mono ?_; rintro e w4 ⟨v4, rfl, ho4, hb4⟩; obtain ⟨A4, c4, rfl, hr4⟩ := HRd.out _ _ _ ho4; have hB4 := hb1.trans (hb4.mono hb1.size); have HR4 := Lib.hid (HR1.out.below hb4); have HR4' := Lib.hid hr4; clear ho4 hr4))
      | (go_at_call 11; go_must (refine (HT.out _ _ _ _ _ HR4.out HR4'.out).mono ?_; rintro e w5 ⟨rfl, hb5⟩; have hB5 := hB4.trans (hb5.mono hB4.size)))
      | (go_at_call 12; go_must (refine (known9_any _ (HM.out _ hB5)).mono ?_; rintro e w9 ⟨rfl, hb9⟩; have hB9 := hB5.trans (hb9.mono hB5.size)))
    go_ret
    exact ⟨rfl, hB9⟩
end Go.Proofs.YtobkddekfcgclaaDoor
