/-
  WheadEncodes: the walk, for every header, number and bytes.
-/
import Derived.Test.YtbakpgncfcmfhaaWhBack
import Derived.Test.YtbakpgncfcmfhaaWhHds
import Derived.Test.YtbakpgncfcmfhaaWhREnc
import Derived.Test.YtbakpgncfcmfhaaWhKnown
namespace Go.Proofs.Ytbakpgncfcmfhaa
open Go.RowKit Go.Sort
open Wh (At)
open Me

theorem low1 {w W W' : World} {o : Obj} (h : Below (w.heap.size + 1) (w.alloc o) W) (k : Below W.heap.size W W') : Below (w.heap.size + 1) (w.alloc o) W' := h.trans (k.mono (by have := h.size; simpa using this))
theorem low1a {w W : World} {o : Obj} (h : Below (w.heap.size + 1) (w.alloc o) W) (o' : Obj) : Below (w.heap.size + 1) (w.alloc o) (W.alloc o') := h.alloc (by have := h.size; simpa using this) o'
theorem low1s {w W : World} {o : Obj} (h : Below (w.heap.size + 1) (w.alloc o) W) : w.heap.size < W.heap.size := by have := h.size; simp at this; omega
/-- Two appends onto a row of the call's own. -/
theorem app_reads {base : Nat} {w : World} {v : Value} {B M : List UInt8} (h : w.ownsRow base 5 1 v (0 + B.length + M.length) (([] ++ by8 B) ++ by8 M)) : Reads w v (B ++ M) := by
  refine Reads.own (base := base) ?_
  unfold OwnB
  rw [List.length_append, by8_append]
  simpa using h

theorem own_ge {base : Nat} {w : World} {e : TypeId} {s n : Nat} {v : Value} {xs : List Value} (h : w.ownsRow base e s v n xs) : ∀ g, v.ownBlock = some g → base ≤ g := by
  intro g hg
  rcases h.2 with ⟨rfl, _⟩ | ⟨g', cap, cur, rfl, hb, _⟩
  · cases hg
  · have : g' = g := by simpa [Value.ownBlock] using hg
    omega

set_option maxHeartbeats 4000000 in
theorem encodes_any (ag xf : Int) (l : List (Int × Int)) (A : Option Addr) (cap : Nat) (i : Int) (M : List UInt8) (Am : Option Addr) (cm : Nat) (w : World) (h : Row w A l cap) (hm : Reads w (.slice Am M.length cm) M) :
    Calls Try.prog 3 #[.agg #[.int .i64 ag, .int .i64 xf, .slice A l.length cap], .int .i64 i, .slice Am M.length cm] w fun e w' => e = .returned (.bool true) ∧ Below w.heap.size w w' := by
  by_cases h60 : 60 < l.length
  · clear h hm
    go_enter Try.func3, Try.ntmps3
    go_wp2_with fail
    go_ret
    exact ⟨rfl, (by repeat (first | exact Below.refl _ _ | assumption | refine Below.setCell ?_ (by first | (simp; done) | omega | (simp; omega) | (simp at *; omega)) _ | refine Below.alloc ?_ (by first | (simp; done) | omega | (simp; omega) | (simp at *; omega)) _ | refine Below.drew ?_ | (refine Below.trans ?_ (Below.mono (by assumption) (by first | (simp; done) | omega | (simp; omega) | (simp at *; omega)))) | (refine Below.trans ?_ (Below.mono (below_regrown _ _ _) (by first | (simp; done) | omega | (simp; omega) | (simp at *; omega))))))⟩
  by_cases hM : 2000 < M.length
  · clear h hm
    go_enter Try.func3, Try.ntmps3
    go_wp2_with fail
    go_ret
    exact ⟨rfl, (by repeat (first | exact Below.refl _ _ | assumption | refine Below.setCell ?_ (by first | (simp; done) | omega | (simp; omega) | (simp at *; omega)) _ | refine Below.alloc ?_ (by first | (simp; done) | omega | (simp; omega) | (simp at *; omega)) _ | refine Below.drew ?_ | (refine Below.trans ?_ (Below.mono (by assumption) (by first | (simp; done) | omega | (simp; omega) | (simp at *; omega)))) | (refine Below.trans ?_ (Below.mono (below_regrown _ _ _) (by first | (simp; done) | omega | (simp; omega) | (simp at *; omega))))))⟩
  have HEn : Hid (∀ W, Below w.heap.size w W → Calls Try.prog 6 #[.agg #[.int .i64 ag, .int .i64 xf, .slice A l.length cap]] W (Coded W (Wh.enc ag xf l) (if Wh.val ag xf l = true then 0 else 1))) := Lib.hid fun W hb => encode_any ag xf l A cap W (h.below hb)
  have HRn : Hid (∀ W, Below w.heap.size w W → Calls Try.prog 7 #[.agg #[.int .i64 ag, .int .i64 xf, .slice A l.length cap]] W (Coded W (Wh.enc ag xf l) (if Wh.val ag xf l = true then 0 else 1))) := Lib.hid fun W hb => rencode_any ag xf l A cap W (h.below hb)
  have HCk : Hid (∀ W, Below w.heap.size w W → Calls Try.prog 8 #[.agg #[.int .i64 ag, .int .i64 xf, .slice A l.length cap]] W fun e w' => e = .returned (.int .i64 (if Wh.val ag xf l = true then 0 else 1)) ∧ Below W.heap.size W w') := Lib.hid fun W hb => check_any ag xf l A cap W (h.below hb)
  have HSz : Hid (∀ W, Below w.heap.size w W → Calls Try.prog 9 #[.agg #[.int .i64 ag, .int .i64 xf, .slice A l.length cap]] W fun e w' => e = .returned (.int .i64 (Wh.size ag xf l)) ∧ Below W.heap.size W w') := Lib.hid fun W hb => size_any ag xf l A cap W (h.below hb)
  have HRs : Hid (∀ W, Below w.heap.size w W → Calls Try.prog 10 #[.agg #[.int .i64 ag, .int .i64 xf, .slice A l.length cap]] W fun e w' => e = .returned (.int .i64 (Wh.size ag xf l)) ∧ Below W.heap.size W w') := Lib.hid fun W hb => rsize_any ag xf l A cap W (h.below hb)
  have HOf : Hid (∀ W, Below w.heap.size w W → Calls Try.prog 11 #[.agg #[.int .i64 ag, .int .i64 xf, .slice A l.length cap], .int .i64 i] W fun e w' => e = .returned (.int .i64 (Wh.offs ag xf l i)) ∧ Below W.heap.size W w') := Lib.hid fun W hb => offs_any ag xf l A cap i W (h.below hb)
  have HRo : Hid (∀ W, Below w.heap.size w W → Calls Try.prog 12 #[.agg #[.int .i64 ag, .int .i64 xf, .slice A l.length cap], .int .i64 i] W fun e w' => e = .returned (.int .i64 (Wh.offs ag xf l i)) ∧ Below W.heap.size W w') := Lib.hid fun W hb => roffs_any ag xf l A cap i W (h.below hb)
  have HSp : Hid (∀ W, Below w.heap.size w W → Calls Try.prog 13 #[.agg #[.int .i64 ag, .int .i64 xf, .slice A l.length cap]] W fun e w' => e = .returned (.int .i64 (Wh.spn ag xf l)) ∧ Below W.heap.size W w') := Lib.hid fun W hb => spn_any ag xf l A cap W (h.below hb)
  have HRp : Hid (∀ W, Below w.heap.size w W → Calls Try.prog 14 #[.agg #[.int .i64 ag, .int .i64 xf, .slice A l.length cap]] W fun e w' => e = .returned (.int .i64 (Wh.spn ag xf l)) ∧ Below W.heap.size W w') := Lib.hid fun W hb => rspn_any ag xf l A cap W (h.below hb)
  have HBX : Hid (∀ W, Below (w.heap.size + 1) (w.alloc (.cells #[.int .i64 ag, .int .i64 xf, .slice A l.length cap] 24)) W → W.cell? ⟨w.heap.size, 0, none⟩ = some (.int .i64 ag) ∧ W.cell? ⟨w.heap.size, 1, none⟩ = some (.int .i64 xf) ∧ W.cell? ⟨w.heap.size, 2, none⟩ = some (.slice A l.length cap)) := Lib.hid fun W hb => box_cells hb
  have hhI : (l.length : Int) ≤ 60 := by omega
  have hMI : (M.length : Int) ≤ 2000 := by omega
  generalize Wh.size ag xf l = sz at *
  generalize Wh.offs ag xf l i = of at *
  generalize Wh.spn ag xf l = sp at *
  cases hv : Wh.val ag xf l
  · rw [hv] at HEn HRn HCk
    simp only [Bool.false_eq_true, if_false] at HEn HRn HCk
    clear hv h hm h60 hM
    generalize Wh.enc ag xf l = B at *
    go_enter Try.func3, Try.ntmps3
    go_wp2_with first
      | (go_at_call 6; (with_reducible refine (HEn.out _ ((Below.refl _ _).alloc (Nat.le_refl _) _)).mono ?_); rintro e w1 ⟨v1, rfl, ho1, hb1⟩; have hB1 : Below (w.heap.size + 1) (w.alloc (.cells #[.int .i64 ag, .int .i64 xf, .slice A l.length cap] 24)) w1 := hb1.mono (by simp); obtain ⟨x0, x1, x2⟩ := HBX.out w1 hB1; have hl1 := low1s hB1; have hr1 := Reads.own ho1; have HR1 := Lib.hid hr1; have HB1 := Lib.hid hB1; obtain ⟨A1, c1, rfl, hc1, _⟩ := hr1; clear ho1 hb1 hB1)
      | (go_at_call 7; (with_reducible refine (HRn.out _ (lowBox' HB1.out)).mono ?_); rintro e w2 ⟨v2, rfl, ho2, hb2⟩; have hB2 := low1 HB1.out hb2; obtain ⟨y0, y1, y2⟩ := HBX.out w2 hB2; have hl2 := low1s hB2; have hr2 := Reads.own ho2; have kc1 := (HR1.out.below hb2).conv; have kc2 := hr2.conv; have HR12 := Lib.hid (HR1.out.below hb2); have HB2 := Lib.hid hB2; obtain ⟨A2, c2, rfl, hc2, _⟩ := hr2; clear ho2 hb2 hB2)
      | (go_at_call 8; ((with_reducible refine (HCk.out w2 (lowBox' HB2.out)).mono ?_); rintro e w3 ⟨rfl, hb3⟩; have hB3 := low1 HB2.out hb3; obtain ⟨z0, z1, z2⟩ := HBX.out w3 hB3; have hl3 := low1s hB3; have HR13 := Lib.hid (HR12.out.below hb3); have HB3 := Lib.hid hB3; clear hb3 hB3))
      | (go_at_call 8; ((with_reducible refine (HCk.out w3 (lowBox' HB3.out)).mono ?_); rintro e w4 ⟨rfl, hb4⟩; have hB4 := low1 HB3.out hb4; obtain ⟨q0, q1, q2⟩ := HBX.out w4 hB4; have hl4 := low1s hB4; have HB4 := Lib.hid hB4; clear hb4 hB4))
      | fail
    obtain ⟨kc, kf⟩ := kgrown w4
    refine wp_region_quiet_below (by kernel_rfl) (by kernel_rfl) ?_
    repeat (go_big_quiet_step ((first
      | (go_at_call 9; exact Calls.regrown_of (HSz.out _ (lowBox' (low1 HB4.out (below_regrown _ _ _)))))
      | (go_at_call 10; exact Calls.regrown_of (HRs.out _ (lowBox' (low1 HB4.out (below_regrown _ _ _)))))
      | (go_at_call 11; exact Calls.regrown_of (HOf.out _ (lowBox' (low1 HB4.out (below_regrown _ _ _)))))
      | (go_at_call 12; exact Calls.regrown_of (HRo.out _ (lowBox' (low1 HB4.out (below_regrown _ _ _)))))
      | (go_at_call 13; exact Calls.regrown_of (HSp.out _ (lowBox' (low1 HB4.out (below_regrown _ _ _)))))
      | (go_at_call 14; exact Calls.regrown_of (HRp.out _ (lowBox' (low1 HB4.out (below_regrown _ _ _))))))))
    refine wpQuiet_nil ?_
    intro _ hw'
    obtain ⟨⟨dq, osq⟩, hw''⟩ := hw'
    subst hw''
    go_wp2_with (go_at_call 15; (((with_reducible refine (known_any _).mono ?_)); rintro e w9 ⟨rfl, hb9⟩; obtain ⟨hc9, hf9⟩ := bcell hb9; (try have hq9w : w.heap.size < w9.heap.size := Nat.lt_of_lt_of_le (by first | assumption | (simp; done) | (simp; omega)) hb9.size); have hs9 := hb9.size; (try simp at hs9)))
    go_ret
    exact ⟨rfl, (lowBox' (low1 (low1 HB4.out (below_regrown _ _ _)) hb9))⟩
  · rw [hv] at HEn HRn HCk
    simp only [if_true] at HEn HRn HCk
    have hdt : Wh.dok (Wh.enc ag xf l ++ M) = true ∧ Wh.dag (Wh.enc ag xf l ++ M) = ag ∧ Wh.dxf (Wh.enc ag xf l ++ M) = xf ∧ Wh.dl (Wh.enc ag xf l ++ M) = l := Wh.back hv M
    have h8 : l.length ≤ 8 := (Wh.av_t (Wh.val_t hv).2.2.2).2.1
    have hBl : (Wh.enc ag xf l).length ≤ 1000 := by unfold Wh.enc; rw [if_pos hv, Wh.fours_len, Wh.ints_len]; omega
    have HDe : Hid (∀ W A' n c', Reads W (.slice A' n c') (Wh.enc ag xf l ++ M) → Calls Try.prog 16 #[.slice A' n c'] W (fun e w' => ∃ A c, e = .returned (.tuple #[.agg #[.int .i64 ag, .int .i64 xf, .slice A l.length c], .int .i64 0]) ∧ Row w' A l c ∧ Below W.heap.size W w')) := Lib.hid fun W A' n c' hr => by
      have hn : n = (Wh.enc ag xf l ++ M).length := by
        obtain ⟨_, _, e, _, _⟩ := hr
        injection e
      subst hn
      refine (decode_any A' (Wh.enc ag xf l ++ M) c' W hr).mono fun e w' hh => ?_
      obtain ⟨A, c, he, hrow, hb⟩ := hh
      have hde : Wh.derr (Wh.enc ag xf l ++ M) = 0 := (Wh.dok_t hdt.1).2.2.2
      rw [hdt.2.1, hdt.2.2.1, hdt.2.2.2, hde] at he
      rw [hdt.2.2.2] at hrow
      exact ⟨A, c, he, hrow, hb⟩
    have HHd : Hid (∀ W A' c', Below w.heap.size w W → Row W A' l c' → Calls Try.prog 17 #[.agg #[.int .i64 ag, .int .i64 xf, .slice A' l.length c'], .agg #[.int .i64 ag, .int .i64 xf, .slice A l.length cap]] W fun e w' => e = .returned (.bool true) ∧ Below W.heap.size W w') := Lib.hid fun W A' c' hb hr => headers_any ag xf l A' A c' cap W hr (h.below hb) h8
    have HM : Hid (∀ W, Below w.heap.size w W → Reads W (.slice Am M.length cm) M) := Lib.hid fun W hb => hm.below hb
    obtain ⟨j0, hj0, hy0, hy1, hy2⟩ := info_parts u8info
    have HJ := Lib.hid hj0
    have HY := Lib.hid (And.intro hy0 (And.intro hy1 hy2))
    clear hj0 hy0 hy1 hy2 hv h hm h60 hM hdt
    generalize Wh.enc ag xf l = B at *
    go_enter Try.func3, Try.ntmps3
    go_wp2_with first
      | (go_at_call 6; (with_reducible refine (HEn.out _ ((Below.refl _ _).alloc (Nat.le_refl _) _)).mono ?_); rintro e w1 ⟨v1, rfl, ho1, hb1⟩; have hB1 : Below (w.heap.size + 1) (w.alloc (.cells #[.int .i64 ag, .int .i64 xf, .slice A l.length cap] 24)) w1 := hb1.mono (by simp); obtain ⟨x0, x1, x2⟩ := HBX.out w1 hB1; have hl1 := low1s hB1; have hr1 := Reads.own ho1; have HR1 := Lib.hid hr1; have HB1 := Lib.hid hB1; obtain ⟨A1, c1, rfl, hc1, _⟩ := hr1; clear ho1 hb1 hB1)
      | (go_at_call 7; (with_reducible refine (HRn.out _ (lowBox' HB1.out)).mono ?_); rintro e w2 ⟨v2, rfl, ho2, hb2⟩; have hB2 := low1 HB1.out hb2; obtain ⟨y0, y1, y2⟩ := HBX.out w2 hB2; have hl2 := low1s hB2; have hr2 := Reads.own ho2; have kc1 := (HR1.out.below hb2).conv; have kc2 := hr2.conv; have HR12 := Lib.hid (HR1.out.below hb2); have HB2 := Lib.hid hB2; obtain ⟨A2, c2, rfl, hc2, _⟩ := hr2; clear ho2 hb2 hB2)
      | (go_at_call 8; ((with_reducible refine (HCk.out w2 (lowBox' HB2.out)).mono ?_); rintro e w3 ⟨rfl, hb3⟩; have hB3 := low1 HB2.out hb3; obtain ⟨z0, z1, z2⟩ := HBX.out w3 hB3; have hl3 := low1s hB3; have HR13 := Lib.hid (HR12.out.below hb3); have HB3 := Lib.hid hB3; clear hb3 hB3))
      | (go_at_call 8; ((with_reducible refine (HCk.out w3 (lowBox' HB3.out)).mono ?_); rintro e w4 ⟨rfl, hb4⟩; have hB4 := low1 HB3.out hb4; obtain ⟨q0, q1, q2⟩ := HBX.out w4 hB4; have hl4 := low1s hB4; have HB4 := Lib.hid hB4; clear hb4 hB4))
      | fail
    obtain ⟨kc, kf⟩ := kgrown w3
    refine wp_region_quiet_below (by kernel_rfl) (by kernel_rfl) ?_
    repeat (go_big_quiet_step ((first
      | (go_at_call 9; exact Calls.regrown_of (HSz.out _ (lowBox' (low1 HB3.out (below_regrown _ _ _)))))
      | (go_at_call 10; exact Calls.regrown_of (HRs.out _ (lowBox' (low1 HB3.out (below_regrown _ _ _)))))
      | (go_at_call 11; exact Calls.regrown_of (HOf.out _ (lowBox' (low1 HB3.out (below_regrown _ _ _)))))
      | (go_at_call 12; exact Calls.regrown_of (HRo.out _ (lowBox' (low1 HB3.out (below_regrown _ _ _)))))
      | (go_at_call 13; exact Calls.regrown_of (HSp.out _ (lowBox' (low1 HB3.out (below_regrown _ _ _)))))
      | (go_at_call 14; exact Calls.regrown_of (HRp.out _ (lowBox' (low1 HB3.out (below_regrown _ _ _))))))))
    refine wpQuiet_nil ?_
    intro _ hw'
    obtain ⟨⟨dq, osq⟩, hw''⟩ := hw'
    subst hw''
    have hB8 := low1 HB3.out (below_regrown w3 dq osq)
    have hR8 := HR13.out.below (below_regrown w3 dq osq)
    clear kc kf
    generalize grow (redrawn w3 dq) osq = w8 at *
    obtain ⟨u0, u1, u2⟩ := HBX.out w8 hB8
    have hl8 := low1s hB8
    have HB8 := Lib.hid hB8
    have HR8 := Lib.hid hR8
    have HB8a := Lib.hid (low1a hB8 (.cells #[] 5))
    have HO8 : Hid ((w8.alloc (.cells #[] 5)).ownsRow w8.heap.size 5 1 (.slice (some ⟨w8.heap.size, 0, none⟩) 0 0) 0 []) := Lib.hid (World.ownsRow_made w8 #[] 0 (Nat.le_refl _) (Nat.zero_le _) rfl)
    have HS1 : Hid (Rd (w8.alloc (.cells #[] 5)) (fun _ => True) A1 (by8 B)) := Lib.hid (by
      obtain ⟨A', c', e, _, hrd⟩ := hR8.below ((Below.refl _ _).alloc (Nat.le_refl _) (.cells #[] 5))
      injection e with e1 e2 e3
      subst e1
      exact hrd)
    have HS2 : Hid (∀ W, Below w.heap.size w W → Rd W (fun _ => True) Am (by8 M)) := Lib.hid fun W hb => by
      obtain ⟨A', c', e, _, hrd⟩ := HM.out W hb
      injection e with e1 e2 e3
      subst e1
      exact hrd
    clear hB8 hR8
    go_wp2_with first
      | (at_builtin; refine wpList_app _ rfl (.tmp 84) (.tmp 85) 25 rfl w8.heap.size 5 j0 (.int .u8 0) 1 1 Try.underlying25 HJ.out HY.out.1 HY.out.2.1 HY.out.2.2 rfl (by decide) (.slice (some ⟨w8.heap.size, 0, none⟩) 0 0) 0 [] rfl HO8.out (fun _ => True) A1 B.length c1 (by8 B) rfl (by rw [by8_len]; omega) HS1.out (by8_one _) (by unfold maxLen; omega) (by omega) (by simp) ?_; intro v9 w9 hown9 hg9 hat9 hnil9; have hB9 := HB8a.out.grown hg9 (by have := HB8a.out.size; simp at this ⊢; omega) (fun g e => by simp [Value.ownBlock] at e; omega); have HB9 := Lib.hid hB9; have HO9 := Lib.hid hown9; have hz9 : w8.heap.size ≤ w9.heap.size := Nat.le_trans (by simp) hg9.size; obtain ⟨A9, n9, c9, rfl⟩ := own_slice hown9; clear hown9 hg9 hat9 hnil9 hB9)
      | (at_builtin; refine wpList_app _ rfl (.tmp 86) (.tmp 87) 25 rfl w8.heap.size 5 j0 (.int .u8 0) 1 1 Try.underlying25 HJ.out HY.out.1 HY.out.2.1 HY.out.2.2 rfl (by decide) (.slice A9 n9 c9) (0 + B.length) ([] ++ by8 B) rfl HO9.out (fun _ => True) Am M.length cm (by8 M) rfl (by rw [by8_len]; omega) (HS2.out w9 (lowBox' HB9.out)) (by8_one _) (by unfold maxLen; omega) (by omega) hz9 ?_; intro v10 w10 hown10 hg10 hat10 hnil10; have hB10 := HB9.out.grown hg10 (by have := HB8.out.size; simp at this; omega) (fun g e => by have := own_ge HO9.out g e; have := HB8.out.size; simp at this; omega); have HB10 := Lib.hid hB10; have HR10 := Lib.hid (app_reads hown10); obtain ⟨A10, n10, c10, rfl⟩ := own_slice hown10; clear hown10 hg10 hat10 hnil10 hB10)
      | (go_at_call 16; (with_reducible refine (HDe.out w10 A10 n10 c10 HR10.out).mono ?_); rintro e w11 ⟨A11, c11, rfl, hrow11, hb11⟩; have hB11 := low1 HB10.out hb11; obtain ⟨p0, p1, p2⟩ := HBX.out w11 hB11; have hl11 := low1s hB11; have HB11 := Lib.hid hB11; have HW11 := Lib.hid hrow11; clear hrow11 hb11 hB11)
      | (go_at_call 17; (with_reducible refine (HHd.out _ A11 c11 (lowBox' (low1a HB11.out _)) (HW11.out.below ((Below.refl _ _).alloc (Nat.le_refl _) _))).mono ?_); rintro e w12 ⟨rfl, hb12⟩; have HB12 := Lib.hid (low1 (low1a HB11.out _) hb12); clear hb12)
      | (go_at_call 15; (((with_reducible refine (known_any _).mono ?_)); rintro e w13 ⟨rfl, hb13⟩; obtain ⟨hc13, hf13⟩ := bcell hb13; (try have hq13w : w.heap.size < w13.heap.size := Nat.lt_of_lt_of_le (by first | assumption | (simp; done) | (simp; omega)) hb13.size); have hs13 := hb13.size; (try simp at hs13)))
      | fail
    go_ret
    exact ⟨rfl, lowBox' (low1 HB12.out hb13)⟩
end Go.Proofs.Ytbakpgncfcmfhaa
