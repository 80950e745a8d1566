/-
  TrRIns: CONTRACTS: chapter 10, the document's side: Insert.
  TrRRem: CONTRACTS: chapter 10, the document's side: Remove.
-/
import Derived.Test.YtfmbbhcjnidcbaaGreatDoorJ14
import Derived.Test.YtfmbbhcjnidcbaaGreatDoorJ43
import Derived.Test.YtfmbbhcjnidcbaaGreatDoorJ5
import Derived.RegionTactic

namespace Go.Proofs.YtfmbbhcjnidcbaaGreatDoor
open Go.RowKit
open Me

namespace Tr
theorem owns_e1 (W : World) (base : Nat) (e : TypeId) (s : Nat) (h : base ≤ W.heap.size) : (W.alloc (.cells #[] e)).ownsRow base e s (.slice (some ⟨W.heap.size, 0, none⟩) 0 0) 0 [] :=
  ⟨by simp, .inr ⟨W.heap.size, 0, #[], rfl, h, heap_alloc_new W _, Nat.le_refl _, Nat.zero_le _, by simp, by simp⟩⟩
theorem rd_drop {w : World} {G : Nat → Prop} {A : Option Addr} {L : List (List UInt8)} {q cc : Nat} (h : Rd w G A (byS L)) (hc : L.length ≤ cc) : Rd w G (if cc = q then A else Option.map (fun x => x.add q) A) (byS (L.drop q)) := by
  by_cases hq : L.length ≤ q
  · rw [List.drop_eq_nil_of_le hq]
    exact Rd.none_ _ _ _
  · rw [if_neg (by omega)]
    intro hn
    obtain ⟨ad, rfl, h2⟩ := h (by rintro e; apply hn; rw [← byS_drop, e]; simp)
    have := (Rd.sub (w := w) (G := G) (ad := ad) (xs := byS L) (fun _ => ⟨ad, rfl, h2⟩) q (L.length - q))
    rw [byS_drop, List.take_of_length_le (by rw [byS_len, List.length_drop]; omega)] at this
    exact this hn
theorem slice_from10 (W : World) (A : Option Addr) (n q c : Nat) (hq : q ≤ n) (hc : n ≤ c) (A9 : Option Addr) (h9 : A9 = (if c = q then A else Option.map (fun x => x.add q) A)) :
    (Instr.slice 27 (.slice A n c) (some (.int .i64 (q : Int))) none none).run Tryz.prog W = .ok (.slice A9 (n - q) (c - q)) W := by
  have h1 : ¬ (n : Int) < (q : Int) := by omega
  have h2 : ¬ n < q := by omega
  have h3 : (0 : Int) ≤ (q : Int) := by omega
  have h4 : (q : Int) ≤ (n : Int) := by omega
  have h5 : (n : Int) ≤ (c : Int) := by omega
  subst h9
  cases A <;> by_cases e : c = q <;> simp [go_sem, *]
theorem slice_to10 (W : World) (A : Option Addr) (n q c : Nat) (hq : q ≤ n) (hc : n ≤ c) :
    (Instr.slice 27 (.slice A n c) none (some (.int .i64 (q : Int))) none).run Tryz.prog W = .ok (.slice A q c) W := by
  have h1 : ¬ (c : Int) < (q : Int) := by omega
  have h2 : ¬ c < q := by omega
  have h3 : (0 : Int) ≤ (q : Int) := by omega
  have h4 : (q : Int) ≤ (n : Int) := by omega
  have h5 : (n : Int) ≤ (c : Int) := by omega
  have h6 : (q : Int) ≤ (c : Int) := by omega
  cases A <;> simp [go_sem, *]
/-- What was put together reads as the row with the name in its place. -/
theorem ins_end {w3 : World} {base q m : Nat} {v3 : Value} {L : List (List UInt8)} {s : List UInt8} (h : w3.ownsRow base 9 1 v3 (0 + q + 1 + m) (([] ++ byS (L.take q) ++ [.string ⟨s.toArray⟩]) ++ byS (L.drop q))) (hm : m = L.length - q) (hq : q ≤ L.length) (hld : q = lead (bef s) L) : OwnS base w3 v3 (ins L s) := by
  subst hm
  have e : (ins L s).length = 0 + q + 1 + (L.length - q) := by unfold ins; rw [put_len]; omega
  unfold OwnS
  rw [e]
  unfold ins put
  rw [← hld, byS_append]
  simpa [byS] using h
end Tr

set_option maxRecDepth 100000 in
set_option maxHeartbeats 2000000 in
theorem refInsert10_any {G : Nat → Prop} {xb : Nat} {L : List (List UInt8)} (s : List UInt8) (w : World) (h : Tr.RefAt w G xb L) (hn : L.length ≤ 1048576) (hs : s.length ≤ 4294967270) (hl : ∀ x ∈ L, x.length ≤ 4294967270) (hG : ¬ G xb) :
    Calls Tryz.prog 7 #[.pointer (some ⟨xb, 0, none⟩), .string ⟨s.toArray⟩] w fun e w' => e = .returned (.int .i64 (if Nm.is s = true then 0 else 14)) ∧ Kp (fun i => i = xb) w w' ∧ Tr.RefAt w' (fun i => G i ∨ w.heap.size ≤ i) xb (Tr.insV L s) := by
  have H0 := Lib.hid h
  obtain ⟨A, c, hx, hc, hcm, hr⟩ := h
  have HX := Lib.hid hx
  have HR := Lib.hid hr
  have hxl := hx.lt
  have c0 : w.cell? ⟨xb, 0, none⟩ = some (.slice A L.length c) := by rw [hx.cell]; rfl
  have hL9 : (L.length : Int) ≤ 1048576 := by omega
  have HIs := Lib.hid fun W => refIs_all s W
  have HHas := Lib.hid fun W (hW : Below w.heap.size w W) => refHas10_any s W (H0.out.below hW) (by omega)
  have HLl := Lib.hid hl
  obtain ⟨i0, hi0, hz0, hz1, hz2⟩ := info_parts strinfoN
  have HI := Lib.hid hi0
  have HZ := Lib.hid (And.intro hz0 (And.intro hz1 hz2))
  unfold maxLen at hcm
  clear hr hx hi0 hz0 hz1 hz2
  have hnot : ∀ W, Below w.heap.size w W → Tr.insV L s = L → Kp (fun i => i = xb) w W ∧ Tr.RefAt W (fun i => G i ∨ w.heap.size ≤ i) xb (Tr.insV L s) := fun W hW e => by
    rw [e]
    obtain ⟨A, c, g1, g2, g3, g4⟩ := H0.out.below hW
    exact ⟨Kp.of_below hW, A, c, g1, g2, g3, g4.mono fun _ _ h => .inl h⟩
  have HNot := Lib.hid hnot
  clear hnot
  cases hi : Nm.is s
  · have HV : Hid (Tr.insV L s = L) := Lib.hid (by unfold Tr.insV; rw [hi]; simp)
    rw [hi] at HIs
    go_enter Tryz.func7, Tryz.ntmps7
    go_wp2_with (go_at_call 22; go_must (refine (HIs.out _).mono ?_; rintro e w1 ⟨rfl, hb1⟩))
    go_ret
    exact ⟨rfl, HNot.out _ hb1 HV.out⟩
  rw [hi] at HIs
  by_cases hm : s ∈ L
  · have HV : Hid (Tr.insV L s = L) := Lib.hid (by unfold Tr.insV; simp [hm])
    have HHas2 : Hid (∀ W, Below w.heap.size w W → Calls Tryz.prog 14 #[.pointer (some ⟨xb, 0, none⟩), .string ⟨s.toArray⟩] W fun e w' => e = .returned (.bool true) ∧ Below W.heap.size W w') := Lib.hid fun W hW => by
      have := HHas.out W hW
      rw [decide_eq_true hm] at this
      exact this
    clear HHas
    go_enter Tryz.func7, Tryz.ntmps7
    go_wp2_with first
      | (go_at_call 22; go_must (refine (HIs.out _).mono ?_; rintro e w1 ⟨rfl, hb1⟩))
      | (go_at_call 14; go_must (refine (HHas2.out _ hb1).mono ?_; rintro e w2 ⟨rfl, hb2⟩; have HB2 := Lib.hid (hb1.trans (hb2.mono hb1.size))))
    go_ret
    exact ⟨rfl, HNot.out _ HB2.out HV.out⟩
  have HV : Hid (Tr.insV L s = Tr.ins L s) := Lib.hid (by unfold Tr.insV; simp [hi, hm])
  have HHas2 : Hid (∀ W, Below w.heap.size w W → Calls Tryz.prog 14 #[.pointer (some ⟨xb, 0, none⟩), .string ⟨s.toArray⟩] W fun e w' => e = .returned (.bool false) ∧ Below W.heap.size W w') := Lib.hid fun W hW => by
    have := HHas.out W hW
    rw [decide_eq_false hm] at this
    exact this
  clear HHas HNot hm
  go_enter Tryz.func7, Tryz.ntmps7
  go_wp2_with first
    | (go_at_call 22; go_must (refine (HIs.out _).mono ?_; rintro e w1 ⟨rfl, hb1⟩))
    | (go_at_call 14; go_must (refine (HHas2.out _ hb1).mono ?_; rintro e w2 ⟨rfl, hb2⟩; have HB2 := Lib.hid (hb1.trans (hb2.mono hb1.size)); have hs2 := HB2.out.size))
  clear hb1 hb2
  go_loopw [5] (fun i wr => ∃ k : Nat, k ≤ L.length ∧ i = .int .i64 k ∧ Hid (Below w.heap.size w wr) ∧ Hid (∀ j (h : j < L.length), j < k → Tr.bef s L[j] = true)) (fun i _ => L.length - (intOf i).toNat)
  case atStart => exact ⟨0, Nat.zero_le _, rfl, HB2, Lib.hid fun _ _ h => absurd h (Nat.not_lt_zero _)⟩
  case round =>
    obtain ⟨k, hk, rfl, HW, HN⟩ := hrel
    have hk0 : (0 : Int) ≤ (k : Int) := by omega
    have d0 := (HW.out.cell (p := ⟨xb, 0, none⟩) hxl).trans c0
    have hws := HW.out.size
    have hkc : (k : Int) ≤ (c : Int) := by omega
    have hkc' : k ≤ c := by omega
    by_cases h1 : k < L.length
    · have h1I : (k : Int) < (L.length : Int) := by omega
      obtain ⟨lb, lo, rfl, hlb, _, hx⟩ := HR.out.lit k (by rw [byS_len]; exact h1)
      have ec := (HW.out.cell (p := ⟨lb, lo + k, none⟩) hlb).trans (hx k _ (byS_get L k h1))
      have HBf := Lib.hid fun W => refBefore_any L[k] s (HLl.out _ (List.getElem_mem h1)) hs W
      clear hx
      cases hb : Tr.bef s L[k]
      · have HLd : Hid (k = Tr.lead (Tr.bef s) L) := Lib.hid (Tr.lead_eq _ L k hk HN.out (fun _ => hb))
        have HBf2 : Hid (∀ W, Calls Tryz.prog 23 #[.string ⟨L[k].toArray⟩, .string ⟨s.toArray⟩] W fun e w' => e = .returned (.bool false) ∧ Below W.heap.size W w') := Lib.hid fun W => by
          have := HBf.out W
          rw [show Tr.ltP (Nm.pt L[k]) (Nm.pt s) = false from hb] at this
          exact this
        clear HBf hb HN
        generalize L[k] = p at *
        go_wp2_with first
          | (go_at_call 23; go_must (refine (HBf2.out _).mono ?_; rintro e wq ⟨rfl, hbq⟩; have HWq := Lib.hid (HW.out.trans (hbq.mono hws)); have hwq := HWq.out.size; have hxq : xb < wq.heap.size := Nat.lt_of_lt_of_le hxl hwq; have dq := (HWq.out.cell (p := ⟨xb, 0, none⟩) hxl).trans c0; have k8 := fun W => Tr.slice_to10 W ((some ⟨lb, lo, none⟩)) L.length k c hk hc; have HRt := Lib.hid (Tr.rd_take k ((((HR.out.below HWq.out).below ((Below.refl _ _).alloc (Nat.le_refl _) (.cells #[] 9)))).mono fun _ _ _ => trivial)); clear hbq))
          | (at_builtin; refine wpList_app _ rfl (.tmp 33) (.tmp 39) 27 rfl w.heap.size 9 i0 (.string ⟨#[]⟩) 1 16 Tryz.underlying27 HI.out HZ.out.1 HZ.out.2.1 HZ.out.2.2 rfl (by decide) (.slice (some ⟨wq.heap.size, 0, none⟩) 0 0) 0 [] rfl (Tr.owns_e1 wq _ _ _ hwq) (fun _ => True) (some ⟨lb, lo, none⟩) k c (byS (L.take k)) (by simp [Act.eval]) (by rw [byS_len, List.length_take]; omega) HRt.out (byS_one _) (by unfold maxLen; omega) (by omega) (by simp; omega) ?_; intro v1 w3 ho1 hg1 ha1 hn1; have HB3 := Lib.hid ((HWq.out.alloc hwq (.cells #[] 9)).grown hg1 (by simp; omega) (fun g hg => by simp [Value.ownBlock] at hg; omega)); have ws3 := HB3.out.size; have hx3 : xb < w3.heap.size := Nat.lt_of_lt_of_le hxl ws3; have HO1 := Lib.hid ho1; clear ho1 hg1 ha1 hn1)
          | (at_builtin; refine wpList_app _ rfl (.tmp 40) (.tmp 42) 27 rfl w.heap.size 9 i0 (.string ⟨#[]⟩) 1 16 Tryz.underlying27 HI.out HZ.out.1 HZ.out.2.1 HZ.out.2.2 rfl (by decide) v1 (0 + k) _ rfl (HO1.out.alloc _) (fun _ => True) (some ⟨w3.heap.size, 0, none⟩) 1 1 [.string ⟨s.toArray⟩] (by simp [Act.eval]) (by simp) ((Rd.fresh w3 [.string ⟨s.toArray⟩] 9 _ rfl).mono (fun _ _ _ => trivial)) (by intro u hu; simp at hu; subst hu; rfl) (by unfold maxLen; omega) (by omega) (by simp; omega) ?_; intro v2 w4 ho2 hg2 ha2 hn2; have HB4 := Lib.hid ((HB3.out.alloc ws3 (.cells #[.string ⟨s.toArray⟩] 9)).grown hg2 (by simp; omega) (fun g hg => (HO1.out.lt g hg).1)); have ws4 := HB4.out.size; have hx4 : xb < w4.heap.size := Nat.lt_of_lt_of_le hxl ws4; have d4 := (HB4.out.cell (p := ⟨xb, 0, none⟩) hxl).trans c0; obtain ⟨A9, h9⟩ : ∃ A9 : Option Addr, A9 = (if c = k then ((some ⟨lb, lo, none⟩) : Option Addr) else Option.map (fun x : Addr => x.add k) ((some ⟨lb, lo, none⟩) : Option Addr)) := ⟨_, rfl⟩; have k9 := Tr.slice_from10 w4 ((some ⟨lb, lo, none⟩)) L.length k c hk hc A9 h9; have HRd : Hid (Rd w4 G A9 (byS (L.drop k))) := Lib.hid (by rw [h9]; exact Tr.rd_drop (q := k) (HR.out.below HB4.out) hc); clear h9; have HO2 := Lib.hid ho2; clear ho2 hg2 ha2 hn2)
          | (at_builtin; refine wpList_app _ rfl (.tmp 45) (.tmp 51) 27 rfl w.heap.size 9 i0 (.string ⟨#[]⟩) 1 16 Tryz.underlying27 HI.out HZ.out.1 HZ.out.2.1 HZ.out.2.2 rfl (by decide) v2 (0 + k + 1) _ rfl HO2.out G _ (L.length - k) (c - k) (byS (L.drop k)) (by simp [Act.eval]) (by rw [byS_len, List.length_drop]; omega) HRd.out (byS_one _) (by unfold maxLen; omega) (by omega) ws4 ?_; intro v3 w5 ho3 hg3 ha3 hn3; obtain ⟨A3, n3, c3, rfl⟩ := own_slice ho3; have HB5 := Lib.hid (HB4.out.grown hg3 ws4 (fun g hg => (HO2.out.lt g hg).1)); have d5 := (HB5.out.cell (p := ⟨xb, 0, none⟩) hxl).trans c0; have hr5 := HX.out.below HB5.out hxl; have f5 := hr5.frozen 0; have l5 := hr5.lt; have HO3 := Lib.hid ho3; clear ho3 hg3 ha3 hn3 hr5)
        go_ret
        obtain ⟨A4, c4, e4, g1, g2, g3⟩ := Ss.own (Tr.ins_end HO3.out rfl hk HLd.out)
        injection e4 with e1 e2 e3
        subst e1 e2 e3
        refine ⟨rfl, (Kp.of_below (O := fun i => i = xb) HB5.out).setCell ⟨xb, 0, none⟩ (.inr rfl) _, ?_⟩
        rw [HV.out]
        refine ⟨A3, _, (HX.out.below HB5.out hxl).set_ 0 _, g1, g2, ?_⟩
        exact (g3.kp ((Kp.refl (fun i => i = xb) w5).setCell ⟨xb, 0, none⟩ (.inr rfl) _) (fun i _ hi e => by subst e; omega)).mono fun _ _ h => .inr h
      · have HN2 : Hid (∀ j (h : j < L.length), j < k + 1 → Tr.bef s L[j] = true) := Lib.hid fun j h hj => by
          by_cases e : j = k
          · subst e; exact hb
          · exact HN.out j h (by omega)
        have HBf2 : Hid (∀ W, Calls Tryz.prog 23 #[.string ⟨L[k].toArray⟩, .string ⟨s.toArray⟩] W fun e w' => e = .returned (.bool true) ∧ Below W.heap.size W w') := Lib.hid fun W => by
          have := HBf.out W
          rw [show Tr.ltP (Nm.pt L[k]) (Nm.pt s) = true from hb] at this
          exact this
        clear HBf hb HN
        generalize L[k] = p at *
        go_wp2_with (go_at_call 23; go_must (refine (HBf2.out _).mono ?_; rintro e wq ⟨rfl, hbq⟩; have HWq := Lib.hid (HW.out.trans (hbq.mono hws)); clear hbq))
        go_roundw
        case rel => exact ⟨k + 1, by omega, by go_num, HWq, HN2⟩
        case measure => simp [intOf]; omega
    · have h1I : ¬ (k : Int) < (L.length : Int) := by omega
      have HLd : Hid (k = Tr.lead (Tr.bef s) L) := Lib.hid (Tr.lead_eq _ L k hk HN.out (fun h => absurd h h1))
      have HWq := HW
      have hwq := hws
      have hxq : xb < wr.heap.size := Nat.lt_of_lt_of_le hxl hwq
      have k8 := fun W => Tr.slice_to10 W (A) L.length k c hk hc
      have HRt := Lib.hid (Tr.rd_take k ((((HR.out.below HWq.out).below ((Below.refl _ _).alloc (Nat.le_refl _) (.cells #[] 9)))).mono fun _ _ _ => trivial))
      clear HN
      go_wp2_with first
        | (at_builtin; refine wpList_app _ rfl (.tmp 33) (.tmp 39) 27 rfl w.heap.size 9 i0 (.string ⟨#[]⟩) 1 16 Tryz.underlying27 HI.out HZ.out.1 HZ.out.2.1 HZ.out.2.2 rfl (by decide) (.slice (some ⟨wr.heap.size, 0, none⟩) 0 0) 0 [] rfl (Tr.owns_e1 wr _ _ _ hwq) (fun _ => True) A k c (byS (L.take k)) (by simp [Act.eval]) (by rw [byS_len, List.length_take]; omega) HRt.out (byS_one _) (by unfold maxLen; omega) (by omega) (by simp; omega) ?_; intro v1 w3 ho1 hg1 ha1 hn1; have HB3 := Lib.hid ((HWq.out.alloc hwq (.cells #[] 9)).grown hg1 (by simp; omega) (fun g hg => by simp [Value.ownBlock] at hg; omega)); have ws3 := HB3.out.size; have hx3 : xb < w3.heap.size := Nat.lt_of_lt_of_le hxl ws3; have HO1 := Lib.hid ho1; clear ho1 hg1 ha1 hn1)
        | (at_builtin; refine wpList_app _ rfl (.tmp 40) (.tmp 42) 27 rfl w.heap.size 9 i0 (.string ⟨#[]⟩) 1 16 Tryz.underlying27 HI.out HZ.out.1 HZ.out.2.1 HZ.out.2.2 rfl (by decide) v1 (0 + k) _ rfl (HO1.out.alloc _) (fun _ => True) (some ⟨w3.heap.size, 0, none⟩) 1 1 [.string ⟨s.toArray⟩] (by simp [Act.eval]) (by simp) ((Rd.fresh w3 [.string ⟨s.toArray⟩] 9 _ rfl).mono (fun _ _ _ => trivial)) (by intro u hu; simp at hu; subst hu; rfl) (by unfold maxLen; omega) (by omega) (by simp; omega) ?_; intro v2 w4 ho2 hg2 ha2 hn2; have HB4 := Lib.hid ((HB3.out.alloc ws3 (.cells #[.string ⟨s.toArray⟩] 9)).grown hg2 (by simp; omega) (fun g hg => (HO1.out.lt g hg).1)); have ws4 := HB4.out.size; have hx4 : xb < w4.heap.size := Nat.lt_of_lt_of_le hxl ws4; have d4 := (HB4.out.cell (p := ⟨xb, 0, none⟩) hxl).trans c0; obtain ⟨A9, h9⟩ : ∃ A9 : Option Addr, A9 = (if c = k then (A : Option Addr) else Option.map (fun x : Addr => x.add k) (A : Option Addr)) := ⟨_, rfl⟩; have k9 := Tr.slice_from10 w4 (A) L.length k c hk hc A9 h9; have HRd : Hid (Rd w4 G A9 (byS (L.drop k))) := Lib.hid (by rw [h9]; exact Tr.rd_drop (q := k) (HR.out.below HB4.out) hc); clear h9; have HO2 := Lib.hid ho2; clear ho2 hg2 ha2 hn2)
        | (at_builtin; refine wpList_app _ rfl (.tmp 45) (.tmp 51) 27 rfl w.heap.size 9 i0 (.string ⟨#[]⟩) 1 16 Tryz.underlying27 HI.out HZ.out.1 HZ.out.2.1 HZ.out.2.2 rfl (by decide) v2 (0 + k + 1) _ rfl HO2.out G _ (L.length - k) (c - k) (byS (L.drop k)) (by simp [Act.eval]) (by rw [byS_len, List.length_drop]; omega) HRd.out (byS_one _) (by unfold maxLen; omega) (by omega) ws4 ?_; intro v3 w5 ho3 hg3 ha3 hn3; obtain ⟨A3, n3, c3, rfl⟩ := own_slice ho3; have HB5 := Lib.hid (HB4.out.grown hg3 ws4 (fun g hg => (HO2.out.lt g hg).1)); have d5 := (HB5.out.cell (p := ⟨xb, 0, none⟩) hxl).trans c0; have hr5 := HX.out.below HB5.out hxl; have f5 := hr5.frozen 0; have l5 := hr5.lt; have HO3 := Lib.hid ho3; clear ho3 hg3 ha3 hn3 hr5)
      go_ret
      obtain ⟨A4, c4, e4, g1, g2, g3⟩ := Ss.own (Tr.ins_end HO3.out rfl hk HLd.out)
      injection e4 with e1 e2 e3
      subst e1 e2 e3
      refine ⟨rfl, (Kp.of_below (O := fun i => i = xb) HB5.out).setCell ⟨xb, 0, none⟩ (.inr rfl) _, ?_⟩
      rw [HV.out]
      refine ⟨A3, _, (HX.out.below HB5.out hxl).set_ 0 _, g1, g2, ?_⟩
      exact (g3.kp ((Kp.refl (fun i => i = xb) w5).setCell ⟨xb, 0, none⟩ (.inr rfl) _) (fun i _ hi e => by subst e; omega)).mono fun _ _ h => .inr h
end Go.Proofs.YtfmbbhcjnidcbaaGreatDoor

namespace Go.Proofs.YtfmbbhcjnidcbaaGreatDoor
open Go.RowKit
open Me

namespace Tr
theorem erase_at : ∀ (L : List (List UInt8)) (s : List UInt8) (k : Nat) (_ : k < L.length), (∀ j (h : j < L.length), j < k → L[j] ≠ s) → L[k]? = some s → L.erase s = L.take k ++ L.drop (k + 1)
  | a :: r, s, 0, _, _, h => by
    have : a = s := by simpa using h
    subst this
    simp
  | a :: r, s, k + 1, hk, hn, h => by
    have h0 : a ≠ s := hn 0 (by simp) (by omega)
    rw [List.erase_cons_tail (by simpa using h0)]
    rw [erase_at r s k (by simpa using hk) (fun j hj hl => hn (j + 1) (by simpa using hj) (by omega)) (by simpa using h)]
    rfl
theorem rem10_end {w3 : World} {base k m : Nat} {v3 : Value} {L : List (List UInt8)} {s : List UInt8} (h : w3.ownsRow base 9 1 v3 (0 + k + m) (([] ++ byS (L.take k)) ++ byS (L.drop (k + 1)))) (hm : m = L.length - (k + 1)) (hk : k < L.length) (he : L.erase s = L.take k ++ L.drop (k + 1)) : OwnS base w3 v3 (L.erase s) := by
  subst hm
  have e : (L.erase s).length = 0 + k + (L.length - (k + 1)) := by rw [he, List.length_append, List.length_take, List.length_drop]; omega
  unfold OwnS
  rw [e, he, byS_append]
  simpa using h
end Tr

set_option maxRecDepth 100000 in
set_option maxHeartbeats 2000000 in
theorem refRemove10_any {G : Nat → Prop} {xb : Nat} {L : List (List UInt8)} (s : List UInt8) (w : World) (h : Tr.RefAt w G xb L) (hn : L.length ≤ 1048576) (hG : ¬ G xb) :
    Calls Tryz.prog 9 #[.pointer (some ⟨xb, 0, none⟩), .string ⟨s.toArray⟩] w fun e w' => e = .returned (.bool (decide (s ∈ L))) ∧ Kp (fun i => i = xb) w w' ∧ Tr.RefAt w' (fun i => G i ∨ w.heap.size ≤ i) xb (L.erase s) := by
  have H0 := Lib.hid h
  obtain ⟨A, c, hx, hc, hcm, hr⟩ := h
  have HX := Lib.hid hx
  have HR := Lib.hid hr
  have hxl := hx.lt
  have c0 : w.cell? ⟨xb, 0, none⟩ = some (.slice A L.length c) := by rw [hx.cell]; rfl
  have hL9 : (L.length : Int) ≤ 1048576 := by omega
  obtain ⟨i0, hi0, hz0, hz1, hz2⟩ := info_parts strinfoN
  have HI := Lib.hid hi0
  have HZ := Lib.hid (And.intro hz0 (And.intro hz1 hz2))
  unfold maxLen at hcm
  clear hr hx hi0 hz0 hz1 hz2
  go_enter Tryz.func9, Tryz.ntmps9
  go_wp2_with fail
  go_loopw [5] (fun i wr => ∃ k : Nat, k ≤ L.length ∧ i = .int .i64 k ∧ Hid (Below w.heap.size w wr) ∧ Hid (∀ j (h : j < L.length), j < k → L[j] ≠ s)) (fun i _ => L.length - (intOf i).toNat)
  case atStart => exact ⟨0, Nat.zero_le _, rfl, Lib.hid (Below.refl _ _), Lib.hid fun _ _ h => absurd h (Nat.not_lt_zero _)⟩
  case round =>
    obtain ⟨k, hk, rfl, HW, HN⟩ := hrel
    have hk0 : (0 : Int) ≤ (k : Int) := by omega
    have d0 := (HW.out.cell (p := ⟨xb, 0, none⟩) hxl).trans c0
    have hws := HW.out.size
    have hxq : xb < wr.heap.size := Nat.lt_of_lt_of_le hxl hws
    by_cases h1 : k < L.length
    · have h1I : (k : Int) < (L.length : Int) := by omega
      obtain ⟨lb, lo, rfl, hlb, _, hx⟩ := HR.out.lit k (by rw [byS_len]; exact h1)
      have ec := (HW.out.cell (p := ⟨lb, lo + k, none⟩) hlb).trans (hx k _ (byS_get L k h1))
      clear hx
      by_cases he : L[k] = s
      · have HE := Lib.hid (Tr.erase_at L s k h1 HN.out (by rw [List.getElem?_eq_getElem h1, he]))
        have HQ : Hid (decide (s ∈ L) = true) := Lib.hid (by rw [decide_eq_true_iff, ← he]; exact List.getElem_mem h1)
        rw [he] at ec
        have hself : (s == s) = true := by simp
        have k8 := fun W => Tr.slice_to10 W (some ⟨lb, lo, none⟩) L.length k c hk hc
        obtain ⟨A9, h9⟩ : ∃ A9 : Option Addr, A9 = (if c = k + 1 then (some ⟨lb, lo, none⟩ : Option Addr) else Option.map (fun x : Addr => x.add (k + 1)) (some ⟨lb, lo, none⟩ : Option Addr)) := ⟨_, rfl⟩
        have k9 : ∀ W : World, (Instr.slice 27 (.slice (some ⟨lb, lo, none⟩) L.length c) (some (.int .i64 ((k : Int) + 1))) none none).run Tryz.prog W = .ok (.slice A9 (L.length - (k + 1)) (c - (k + 1))) W := fun W => by
          have := Tr.slice_from10 W (some ⟨lb, lo, none⟩) L.length (k + 1) c h1 hc A9 h9
          exact this
        have HRd : Hid (∀ W, Below w.heap.size w W → Rd W G A9 (byS (L.drop (k + 1)))) := Lib.hid fun W hW => by rw [h9]; exact Tr.rd_drop (q := k + 1) (HR.out.below hW) hc
        have HRt : Hid (∀ W, Below w.heap.size w W → Rd W G (some ⟨lb, lo, none⟩) (byS (L.take k))) := Lib.hid fun W hW => Tr.rd_take k (HR.out.below hW)
        have kk : IntKind.i64.wrap ((k : Int) + 1) = (k : Int) + 1 := IntWalk.i64_in _ (by omega)
        clear h9 HN he
        go_wp2_with fail
        go_region_law (first | (refine step_app _ rfl (.tmp 25) (.tmp 31) 27 rfl w.heap.size 9 i0 (.string ⟨#[]⟩) 1 16 Tryz.underlying27 HI.out HZ.out.1 HZ.out.2.1 HZ.out.2.2 rfl (by decide) (.slice (some ⟨wr.heap.size, 0, none⟩) 0 0) 0 [] (by first | (simp [Act.eval]; done) | (simp [Act.eval, Act.put]; done)) (Tr.owns_e1 wr.drew _ _ _ hws) G (some ⟨lb, lo, none⟩) k c (byS (L.take k)) (by first | (simp [Act.eval]; done) | (simp [Act.eval, Act.put]; done)) (by rw [byS_len, List.length_take]; omega) (HRt.out _ (HW.out.drew.alloc hws _)) (byS_one _) (by unfold maxLen; omega) (by omega) (by simp; omega) ?_; intro v1 w3 ho1 hg1 ha1 hn1; have HB3 := Lib.hid ((HW.out.drew.alloc hws (.cells #[] 9)).grown hg1 (by simp; omega) (fun g hg => by simp [Value.ownBlock] at hg; omega)); have ws3 := HB3.out.size; have hx3 : xb < w3.heap.size := Nat.lt_of_lt_of_le hxl ws3; have d3 := (HB3.out.cell (p := ⟨xb, 0, none⟩) hxl).trans c0; have HO1 := Lib.hid ho1; clear ho1 hg1 ha1 hn1) | (refine step_app _ rfl (.tmp 32) (.tmp 39) 27 rfl w.heap.size 9 i0 (.string ⟨#[]⟩) 1 16 Tryz.underlying27 HI.out HZ.out.1 HZ.out.2.1 HZ.out.2.2 rfl (by decide) v1 (0 + k) _ (by first | (simp [Act.eval]; done) | (simp [Act.eval, Act.put]; done)) HO1.out G A9 (L.length - (k + 1)) (c - (k + 1)) (byS (L.drop (k + 1))) (by first | (simp [Act.eval]; done) | (simp [Act.eval, Act.put]; done)) (by rw [byS_len, List.length_drop]; omega) (HRd.out _ HB3.out) (byS_one _) (by unfold maxLen; omega) (by omega) ws3 ?_; intro v3 w5 ho3 hg3 ha3 hn3; obtain ⟨A3, n3, c3, rfl⟩ := own_slice ho3; have HB5 := Lib.hid (HB3.out.grown hg3 ws3 (fun g hg => (HO1.out.lt g hg).1)); have d5 := (HB5.out.cell (p := ⟨xb, 0, none⟩) hxl).trans c0; have hr5 := HX.out.below HB5.out hxl; have f5 := hr5.frozen 0; have l5 := hr5.lt; have HO3 := Lib.hid ho3; clear ho3 hg3 ha3 hn3 hr5))
        all_goals
          go_wp2_with fail
          go_ret
          obtain ⟨A4, c4, e4, g1, g2, g3⟩ := Ss.own (Tr.rem10_end HO3.out rfl h1 HE.out)
          injection e4 with e1 e2 e3
          subst e1 e2 e3
          refine ⟨by rw [HQ.out]; rfl, (Kp.of_below (O := fun i => i = xb) HB5.out).setCell ⟨xb, 0, none⟩ (.inr rfl) _, ?_⟩
          refine ⟨A3, _, (HX.out.below HB5.out hxl).set_ 0 _, g1, g2, ?_⟩
          exact (g3.kp ((Kp.refl (fun i => i = xb) w5).setCell ⟨xb, 0, none⟩ (.inr rfl) _) (fun i _ hi e => by subst e; omega)).mono fun _ _ h => .inr h
      · have HN2 : Hid (∀ j (h : j < L.length), j < k + 1 → L[j] ≠ s) := Lib.hid fun j h hj => by
          by_cases e : j = k
          · subst e; exact he
          · exact HN.out j h (by omega)
        have hne : (L[k] == s) = false := by rw [beq_eq_false_iff_ne]; exact he
        clear HN he
        generalize L[k] = p at *
        go_wp2_with fail
        go_roundw
        case rel => exact ⟨k + 1, by omega, by go_num, HW, HN2⟩
        case measure => simp [intOf]; omega
    · have h1I : ¬ (k : Int) < (L.length : Int) := by omega
      have hm : s ∉ L := by
        intro hm
        obtain ⟨j, hj, e⟩ := List.getElem_of_mem hm
        exact HN.out j hj (by omega) e
      have HM := Lib.hid hm
      clear HN hm
      go_wp2_with fail
      go_ret
      refine ⟨by rw [decide_eq_false HM.out]; rfl, Kp.of_below HW.out, ?_⟩
      rw [List.erase_of_not_mem HM.out]
      obtain ⟨A, c, g1, g2, g3, g4⟩ := H0.out.below HW.out
      exact ⟨A, c, g1, g2, g3, g4.mono fun _ _ h => .inl h⟩
end Go.Proofs.YtfmbbhcjnidcbaaGreatDoor
