/-
  TrRLay: CONTRACTS: chapter 10, the document's side: lay.
-/
import Derived.Test.YtfmbbhcjnidcbaaGreatDoorJ44
import Derived.Test.YtfmbbhcjnidcbaaGreatDoorJ42
import Derived.Lib.QuietBelow
import Derived.BigQuiet

namespace Go.Proofs.YtfmbbhcjnidcbaaGreatDoor
open Go.RowKit Go.Sort
open Me

namespace Tr
/-- A slice of hits that reads as a list. -/
def Hs (w : World) (v : Value) (L : List DH) : Prop := ∃ A c, v = .slice A L.length c ∧ L.length ≤ c ∧ c ≤ maxLen ∧ Rd w (fun _ => True) A (hvs L)
theorem Hs.below {w w' : World} {v : Value} {L : List DH} (h : Hs w v L) (hb : Below w.heap.size w w') : Hs w' v L := by
  obtain ⟨A, c, h1, h2, h3, h4⟩ := h
  exact ⟨A, c, h1, h2, h3, h4.below hb⟩
theorem Hs.nil (w : World) : Hs w (.slice none 0 0) [] := ⟨none, 0, rfl, Nat.le_refl _, Nat.zero_le _, Rd.none_ _ _ _⟩
theorem Hs.own {w : World} {base n : Nat} {e : TypeId} {v : Value} {L : List DH} (h : w.ownsRow base e 2 v n (hvs L)) (hn : n = L.length) : Hs w v L := by
  subst hn
  rcases h.2 with ⟨hv, h0⟩ | ⟨g, cap, cur, hv, hb, hg, hnc, hcm, hcs, ht⟩
  · have hz : L = [] := List.eq_nil_of_length_eq_zero h0
    subst hz
    exact ⟨none, 0, hv, Nat.le_refl _, Nat.zero_le _, Rd.none_ _ _ _⟩
  · rw [hv] at h
    exact ⟨_, _, hv, hnc, hcm, (Rd.own h).mono fun _ _ _ => trivial⟩
theorem hvs_one (L : List DH) : ∀ u ∈ hvs L, u.oneCell' = true := by
  intro u hu
  unfold hvs at hu
  obtain ⟨c, _, hc⟩ := List.mem_flatMap.1 hu
  simp at hc
  rcases hc with rfl | rfl <;> rfl
theorem Rd.take' {w : World} {G : Nat → Prop} {A : Option Addr} {xs : List Value} (n : Nat) (h : Rd w G A xs) : Rd w G A (xs.take n) := by
  intro hn
  obtain ⟨ad, ea, hl, hg, hc⟩ := h (by rintro rfl; exact hn (by simp))
  refine ⟨ad, ea, hl, hg, fun j u hu => hc j u ?_⟩
  rw [List.getElem?_take] at hu
  split at hu
  · exact hu
  · cases hu
theorem hvs_take (L : List DH) (q : Nat) (hq : q ≤ L.length) : (hvs L).take (q * 2) = hvs (L.take q) := by
  conv => lhs; rw [← List.take_append_drop q L, hvs_append]
  rw [List.take_left' (by rw [hvs_len, List.length_take, Nat.min_eq_left hq])]
theorem hvs_drop (L : List DH) (q : Nat) (hq : q ≤ L.length) : (hvs L).drop (q * 2) = hvs (L.drop q) := by
  conv => lhs; rw [← List.take_append_drop q L, hvs_append]
  rw [List.drop_left' (by rw [hvs_len, List.length_take, Nat.min_eq_left hq])]
theorem rd_dropH {w : World} {G : Nat → Prop} {A : Option Addr} {L : List DH} {q cc : Nat} (h : Rd w G A (hvs L)) (hq : q ≤ L.length) (hc : L.length ≤ cc) : Rd w G (if cc = q then A else Option.map (fun x => x.add (q * 2)) A) (hvs (L.drop q)) := by
  by_cases hq2 : L.length ≤ q
  · rw [List.drop_eq_nil_of_le hq2]
    exact Rd.none_ _ _ _
  · rw [if_neg (by omega)]
    intro hn
    obtain ⟨ad, rfl, h2⟩ := h (by rintro e; have := congrArg List.length e; rw [hvs_len] at this; simp at this; omega)
    have := (Rd.sub (w := w) (G := G) (ad := ad) (xs := hvs L) (fun _ => ⟨ad, rfl, h2⟩) (q * 2) ((L.length - q) * 2))
    rw [hvs_drop L q hq, List.take_of_length_le (by rw [hvs_len, List.length_drop]; omega)] at this
    exact this hn
theorem slice_toH (W : World) (A : Option Addr) (n q c : Nat) (hq : q ≤ n) (hc : n ≤ c) :
    (Instr.slice 36 (.slice A n c) none (some (.int .i64 (q : Int))) none).run Tryz.prog W = .ok (.slice A q c) W := by
  have h1 : ¬ (c : Int) < (q : Int) := by omega
  have h2 : ¬ c < q := by omega
  have h3 : (0 : Int) ≤ (q : Int) := by omega
  have h6 : (q : Int) ≤ (c : Int) := by omega
  cases A <;> simp [go_sem, *]
theorem slice_fromH (W : World) (A : Option Addr) (n q c : Nat) (hq : q ≤ n) (hc : n ≤ c) (A9 : Option Addr) (h9 : A9 = (if c = q then A else Option.map (fun x => x.add (q * 2)) A)) :
    (Instr.slice 36 (.slice A n c) (some (.int .i64 (q : Int))) none none).run Tryz.prog W = .ok (.slice A9 (n - q) (c - q)) W := by
  have h1 : ¬ (n : Int) < (q : Int) := by omega
  have h2 : ¬ n < q := by omega
  have h3 : (0 : Int) ≤ (q : Int) := by omega
  have h4 : (q : Int) ≤ (n : Int) := by omega
  have h5 : (n : Int) ≤ (c : Int) := by omega
  subst h9
  cases A <;> by_cases e : c = q <;> simp [go_sem, *]
theorem rd_over {X w1 : World} {row : Option Nat} {G : Nat → Prop} {A : Option Addr} {xs : List Value} (hg : X.grownBy w1 row) (h : Rd X G A xs) (hG : ∀ i, G i → row ≠ some i) : Rd w1 (fun _ => True) A xs :=
  (h.keep hg.size (fun i hi hGi => hg.block i hi (fun e => hG i hGi e.symm))).mono (fun _ _ _ => trivial)
theorem lay_end {w : World} {base k m : Nat} {v : Value} {L M : List DH} {h : DH} (ho : w.ownsRow base 67 2 v (0 + k + 1 + m) ((([] : List Value) ++ hvs (L.take k) ++ [.string ⟨h.1.toArray⟩, .bool h.2]) ++ hvs (L.drop k))) (hm : m = L.length - k) (hk : k ≤ L.length) (he : M = L.take k ++ h :: L.drop k) : Hs w v M := by
  subst hm
  have e : hvs M = (([] : List Value) ++ hvs (L.take k) ++ [.string ⟨h.1.toArray⟩, .bool h.2]) ++ hvs (L.drop k) := by
    rw [he, show L.take k ++ h :: L.drop k = L.take k ++ ([h] ++ L.drop k) from rfl, hvs_append, hvs_append]
    simp [hvs]
  rw [← e] at ho
  refine Hs.own ho ?_
  rw [he, List.length_append, List.length_cons, List.length_take, List.length_drop]; omega
theorem lay_put {L : List DH} {h : DH} {k : Nat} (hk : k ≤ L.length) (hall : ∀ j (hj : j < L.length), j < k → ltH L[j] h = true) (hend : ∀ hj : k < L.length, ltH L[k] h = false) (hne : ∀ hj : k < L.length, L[k] ≠ h) : layH L h = L.take k ++ h :: L.drop k := by
  have hl := lead_eq (fun y => ltH y h) L k hk hall hend
  unfold layH lay
  rw [← hl, if_neg]
  · unfold put; rw [← hl]
  · intro e
    obtain ⟨hj, he⟩ := List.getElem?_eq_some_iff.1 e
    exact hne hj he
theorem lay_same {L : List DH} {h : DH} {k : Nat} (hk : k < L.length) (hall : ∀ j (hj : j < L.length), j < k → ltH L[j] h = true) (he : L[k] = h) : layH L h = L := by
  have hl := lead_eq (fun y => ltH y h) L k (Nat.le_of_lt hk) hall (fun _ => by
    rw [he]
    cases e : ltH h h with
    | false => rfl
    | true => exact absurd e (RH.irr h))
  unfold layH lay
  rw [← hl, if_pos (by rw [List.getElem?_eq_getElem hk, he])]
end Tr

set_option maxRecDepth 100000 in
set_option maxHeartbeats 4000000 in
theorem refLay_any (L : List Tr.DH) (A : Option Addr) (c : Nat) (hn : List UInt8) (hb : Bool) (w : World) (hc : L.length ≤ c) (hcm : c ≤ maxLen) (hr : Rd w (fun _ => True) A (Tr.hvs L)) (hL : L.length ≤ 1099511627776) (hl : ∀ y ∈ L, y.1.length ≤ 4294967270) (hh : hn.length ≤ 4294967270) :
    Calls Tryz.prog 31 #[.slice A L.length c, .agg #[.string ⟨hn.toArray⟩, .bool hb]] w fun e w' => ∃ v, e = .returned v ∧ Tr.Hs w' v (Tr.layH L (hn, hb)) ∧ Below w.heap.size w w' := by
  have HR := Lib.hid hr
  have HLl := Lib.hid hl
  have hL9 : (L.length : Int) ≤ 1099511627776 := by omega
  obtain ⟨i0, hi0, hz0, hz1, hz2⟩ := info_parts Tr.hitinfo
  have HI := Lib.hid hi0
  have HZ := Lib.hid (And.intro hz0 (And.intro hz1 hz2))
  have HCM := Lib.hid hcm
  unfold maxLen at hcm
  have HBx : Hid (∀ W, Below (w.alloc (.cells #[.string ⟨hn.toArray⟩, .bool hb] 67)).heap.size (w.alloc (.cells #[.string ⟨hn.toArray⟩, .bool hb] 67)) W → RowAt W w.heap.size 67 #[.string ⟨hn.toArray⟩, .bool hb]) := Lib.hid fun W h => (h.block _ (by simp)).trans (heap_alloc_new w _)
  have HAw : Hid (∀ W, Below (w.alloc (.cells #[.string ⟨hn.toArray⟩, .bool hb] 67)).heap.size (w.alloc (.cells #[.string ⟨hn.toArray⟩, .bool hb] 67)) W → Below w.heap.size w W) := Lib.hid fun W h => ((Below.refl _ _).alloc (Nat.le_refl _) _).trans (h.mono (by simp))
  clear hr hl hi0 hz0 hz1 hz2
  go_enter Tryz.func31, Tryz.ntmps31
  go_wp2_with fail
  go_loopw [5] (fun i wr => ∃ k : Nat, k ≤ L.length ∧ i = .int .i64 k ∧ Hid (Below (w.alloc (.cells #[.string ⟨hn.toArray⟩, .bool hb] 67)).heap.size (w.alloc (.cells #[.string ⟨hn.toArray⟩, .bool hb] 67)) wr) ∧ Hid (∀ j (h : j < L.length), j < k → Tr.ltH L[j] (hn, hb) = true)) (fun i _ => L.length - (intOf i).toNat)
  case atStart => exact ⟨0, Nat.zero_le _, rfl, Lib.hid (Below.refl _ _), Lib.hid fun _ _ h => absurd h (Nat.not_lt_zero _)⟩
  case round =>
    obtain ⟨k, hk, rfl, HW, HN⟩ := hrel
    have hk0 : (0 : Int) ≤ (k : Int) := by omega
    have hbx := HBx.out wr HW.out
    have b0 : wr.cell? ⟨w.heap.size, 0, none⟩ = some (.string ⟨hn.toArray⟩) := (hbx.cell 0).trans rfl
    have b1 : wr.cell? ⟨w.heap.size, 1, none⟩ = some (.bool hb) := (hbx.cell 1).trans rfl
    have hbl := hbx.lt
    clear hbx
    have g0 := fun d os => cell_regrown b0 d os
    have g1 := fun d os => cell_regrown b1 d os
    have HRk : Hid (∀ j (h : j < L.length), j < k → Tr.ltH L[j] (hn, hb) = true) := HN
    by_cases h1 : k < L.length
    · have h1I : (k : Int) < (L.length : Int) := by omega
      obtain ⟨lb, lo, rfl, hlb, _, hx⟩ := HR.out.lit (k * 2) (by rw [Tr.hvs_len]; omega)
      have HAwr := HAw.out _ HW.out
      have ec := (HAwr.cell (p := ⟨lb, lo + k * 2, none⟩) hlb).trans (hx (k * 2) _ (Tr.hvs_get L k h1).1)
      have ed := (HAwr.cell (p := ⟨lb, lo + (k * 2 + 1), none⟩) hlb).trans (hx (k * 2 + 1) _ (Tr.hvs_get L k h1).2)
      rw [← Nat.add_assoc] at ed
      have hel : lb < wr.heap.size := Nat.lt_of_lt_of_le hlb HAwr.size
      have HBb := Lib.hid fun W => refBefore_any L[k].1 hn (HLl.out _ (List.getElem_mem h1)) hh W
      clear hx HAwr
      cases hbf : Tr.ltP (Nm.pt L[k].1) (Nm.pt hn)
      · have HBf : Hid (∀ W, Calls Tryz.prog 23 #[.string ⟨L[k].1.toArray⟩, .string ⟨hn.toArray⟩] W fun e w' => e = .returned (.bool false) ∧ Below W.heap.size W w') := Lib.hid fun W => by
          have := HBb.out W
          rw [hbf] at this
          exact this
        clear HBb
        by_cases he : L[k].1 = hn
        · cases hyb : L[k].2
          · cases hb
            · have HRes : Hid (Tr.layH L (hn, false) = L) := Lib.hid (Tr.lay_same h1 HRk.out (Prod.ext he hyb))
              rw [he] at HBf ec
              rw [hyb] at ed
              have hself : (hn == hn) = true := by simp
              clear HN HRk hbf he hyb
              have g2 := fun d os => cell_regrown ec d os
              have g3 := fun d os => cell_regrown ed d os
              go_wp2_with fail
              refine wp_region_quiet_below (by kernel_rfl) (by kernel_rfl) ?_
              repeat (go_big_quiet_step ((go_at_call 23; exact Calls.regrown_of (HBf.out _))))
              refine wpQuiet_nil ?_
              intro _ hw'
              obtain ⟨⟨dq, osq⟩, hw''⟩ := hw'
              subst hw''
              have HQr := Lib.hid (below_regrown wr dq osq)
              have HWq := Lib.hid (HW.out.trans ((below_regrown wr dq osq).mono HW.out.size))
              clear g0 g1 g2 g3
              generalize grow (redrawn wr dq) osq = wq at *
              have z0q : wq.cell? ⟨w.heap.size, 0, none⟩ = some (.string ⟨hn.toArray⟩) := (HQr.out.cell (p := ⟨w.heap.size, 0, none⟩) hbl).trans b0
              have z1q : wq.cell? ⟨w.heap.size, 1, none⟩ = some (.bool false) := (HQr.out.cell (p := ⟨w.heap.size, 1, none⟩) hbl).trans b1
              have hql : w.heap.size < wq.heap.size := Nat.lt_of_lt_of_le hbl HQr.out.size
              have ecq := (HQr.out.cell (p := ⟨lb, lo + k * 2, none⟩) hel).trans ec
              have edq := (HQr.out.cell (p := ⟨lb, lo + k * 2 + 1, none⟩) hel).trans ed
              have q0 := fun d os => cell_regrown z0q d os
              have q1 := fun d os => cell_regrown z1q d os
              have q2 := fun d os => cell_regrown ecq d os
              have q3 := fun d os => cell_regrown edq d os
              go_wp2_with fail
              refine wp_region_quiet_below (by kernel_rfl) (by kernel_rfl) ?_
              repeat (go_big_quiet_step (fail))
              refine wpQuiet_nil ?_
              intro _ hw'
              obtain ⟨⟨dz, osz⟩, hw''⟩ := hw'
              subst hw''
              have HQz := Lib.hid (below_regrown wq dz osz)
              have HWz := Lib.hid (HWq.out.trans ((below_regrown wq dz osz).mono HWq.out.size))
              clear q0 q1 q2 q3
              generalize grow (redrawn wq dz) osz = wz at *
              have z0 : wz.cell? ⟨w.heap.size, 0, none⟩ = some (.string ⟨hn.toArray⟩) := (HQz.out.cell (p := ⟨w.heap.size, 0, none⟩) hql).trans z0q
              have z1 : wz.cell? ⟨w.heap.size, 1, none⟩ = some (.bool false) := (HQz.out.cell (p := ⟨w.heap.size, 1, none⟩) hql).trans z1q
              have hzl : w.heap.size < wz.heap.size := Nat.lt_of_lt_of_le hql HQz.out.size
              have HBw := Lib.hid (HAw.out _ HWz.out)
              go_wp2_with fail
              go_ret
              exact ⟨_, rfl, by rw [HRes.out]; exact ⟨_, c, rfl, hc, HCM.out, HR.out.below HBw.out⟩, HBw.out⟩
            · have HN2 : Hid (∀ j (h : j < L.length), j < k + 1 → Tr.ltH L[j] (hn, true) = true) := Lib.hid fun j h hj => by
                by_cases e : j = k
                · subst e; rw [Tr.ltH_iff]; exact .inr ⟨he, hyb, rfl⟩
                · exact HRk.out j h (by omega)
              rw [he] at HBf ec
              rw [hyb] at ed
              have hself : (hn == hn) = true := by simp
              clear HN HRk hbf he hyb
              have g2 := fun d os => cell_regrown ec d os
              have g3 := fun d os => cell_regrown ed d os
              go_wp2_with fail
              refine wp_region_quiet_below (by kernel_rfl) (by kernel_rfl) ?_
              repeat (go_big_quiet_step ((go_at_call 23; exact Calls.regrown_of (HBf.out _))))
              refine wpQuiet_nil ?_
              intro _ hw'
              obtain ⟨⟨dq, osq⟩, hw''⟩ := hw'
              subst hw''
              have HQr := Lib.hid (below_regrown wr dq osq)
              have HWq := Lib.hid (HW.out.trans ((below_regrown wr dq osq).mono HW.out.size))
              clear g0 g1 g2 g3
              generalize grow (redrawn wr dq) osq = wq at *
              go_wp2_with fail
              go_roundw
              case rel => exact ⟨k + 1, by omega, by go_num, HWq, HN2⟩
              case measure => simp [intOf]; omega
          · cases hb
            · have HRes : Hid (Tr.layH L (hn, false) = L.take k ++ (hn, false) :: L.drop k) := Lib.hid (Tr.lay_put hk HRk.out (fun _ => by
                cases e : Tr.ltH L[k] (hn, false) with
                | false => rfl
                | true =>
                  rw [Tr.ltH_iff] at e
                  rcases e with e | ⟨_, _, e⟩
                  · rw [hbf] at e; cases e
                  · cases e) (fun _ e => by rw [e] at hyb; cases hyb))
              rw [he] at HBf ec
              rw [hyb] at ed
              have hself : (hn == hn) = true := by simp
              clear HN HRk hbf he hyb
              have g2 := fun d os => cell_regrown ec d os
              have g3 := fun d os => cell_regrown ed d os
              go_wp2_with fail
              refine wp_region_quiet_below (by kernel_rfl) (by kernel_rfl) ?_
              repeat (go_big_quiet_step ((go_at_call 23; exact Calls.regrown_of (HBf.out _))))
              refine wpQuiet_nil ?_
              intro _ hw'
              obtain ⟨⟨dq, osq⟩, hw''⟩ := hw'
              subst hw''
              have HQr := Lib.hid (below_regrown wr dq osq)
              have HWq := Lib.hid (HW.out.trans ((below_regrown wr dq osq).mono HW.out.size))
              clear g0 g1 g2 g3
              generalize grow (redrawn wr dq) osq = wq at *
              have z0q : wq.cell? ⟨w.heap.size, 0, none⟩ = some (.string ⟨hn.toArray⟩) := (HQr.out.cell (p := ⟨w.heap.size, 0, none⟩) hbl).trans b0
              have z1q : wq.cell? ⟨w.heap.size, 1, none⟩ = some (.bool false) := (HQr.out.cell (p := ⟨w.heap.size, 1, none⟩) hbl).trans b1
              have hql : w.heap.size < wq.heap.size := Nat.lt_of_lt_of_le hbl HQr.out.size
              have ecq := (HQr.out.cell (p := ⟨lb, lo + k * 2, none⟩) hel).trans ec
              have edq := (HQr.out.cell (p := ⟨lb, lo + k * 2 + 1, none⟩) hel).trans ed
              have q0 := fun d os => cell_regrown z0q d os
              have q1 := fun d os => cell_regrown z1q d os
              have q2 := fun d os => cell_regrown ecq d os
              have q3 := fun d os => cell_regrown edq d os
              go_wp2_with fail
              refine wp_region_quiet_below (by kernel_rfl) (by kernel_rfl) ?_
              repeat (go_big_quiet_step (fail))
              refine wpQuiet_nil ?_
              intro _ hw'
              obtain ⟨⟨dz, osz⟩, hw''⟩ := hw'
              subst hw''
              have HQz := Lib.hid (below_regrown wq dz osz)
              have HWz := Lib.hid (HWq.out.trans ((below_regrown wq dz osz).mono HWq.out.size))
              clear q0 q1 q2 q3
              generalize grow (redrawn wq dz) osz = wz at *
              have z0 : wz.cell? ⟨w.heap.size, 0, none⟩ = some (.string ⟨hn.toArray⟩) := (HQz.out.cell (p := ⟨w.heap.size, 0, none⟩) hql).trans z0q
              have z1 : wz.cell? ⟨w.heap.size, 1, none⟩ = some (.bool false) := (HQz.out.cell (p := ⟨w.heap.size, 1, none⟩) hql).trans z1q
              have hzl : w.heap.size < wz.heap.size := Nat.lt_of_lt_of_le hql HQz.out.size
              have HBw := Lib.hid (HAw.out _ HWz.out)
              have k8 := fun W => Tr.slice_toH W (some ⟨lb, lo, none⟩) L.length k c hk hc
              obtain ⟨A9, h9⟩ : ∃ A9 : Option Addr, A9 = (if c = k then ((some ⟨lb, lo, none⟩) : Option Addr) else Option.map (fun x : Addr => x.add (k * 2)) ((some ⟨lb, lo, none⟩) : Option Addr)) := ⟨_, rfl⟩
              have k9 := fun W => Tr.slice_fromH W (some ⟨lb, lo, none⟩) L.length k c hk hc A9 h9
              have HRd : Hid (∀ W, Below wz.heap.size wz W → Rd W (fun _ => True) A9 (Tr.hvs (L.drop k))) := Lib.hid fun W hW => by rw [h9]; exact Tr.rd_dropH ((HR.out.below HBw.out).below hW) hk hc
              have HRt : Hid (∀ W, Below wz.heap.size wz W → Rd W (fun _ => True) (some ⟨lb, lo, none⟩) (Tr.hvs (L.take k))) := Lib.hid fun W hW => by rw [← Tr.hvs_take L k hk]; exact Tr.Rd.take' _ ((HR.out.below HBw.out).below hW)
              have HO3 : Hid (((wz.drew.alloc (.cells #[.string ⟨hn.toArray⟩, .bool false] 67)).alloc (.cells #[] 67)).ownsRow wz.heap.size 67 2 (.slice (some ⟨wz.heap.size + 1, 0, none⟩) 0 0) 0 []) := Lib.hid (by have := Tr.owns_e1 (wz.drew.alloc (.cells #[.string ⟨hn.toArray⟩, .bool false] 67)) wz.heap.size 67 2 (by simp); simpa using this)
              clear h9
              go_wp2_with fail
              go_region_law (first | (refine step_app _ rfl (.tmp 58) (.tmp 61) 36 rfl wz.heap.size 67 i0 (.agg #[.string ⟨#[]⟩, .bool false]) 2 24 Tryz.underlying36 HI.out HZ.out.1 HZ.out.2.1 HZ.out.2.2 rfl (by decide) (.slice (some ⟨wz.heap.size, 0, none⟩) 0 0) 0 [] (by first | (simp [Act.eval]; done) | (simp [Act.eval, Act.put]; done)) (Tr.owns_e1 wz.drew _ _ _ (Nat.le_refl _)) (fun _ => True) ((some ⟨lb, lo, none⟩)) k c (Tr.hvs (L.take k)) (by first | (simp [Act.eval]; done) | (simp [Act.eval, Act.put]; done)) (by rw [Tr.hvs_len, List.length_take]; omega) (HRt.out _ (((Below.refl _ _).drew).alloc (Nat.le_refl _) _)) (Tr.hvs_one _) (by unfold maxLen; omega) (by omega) (by simp <;> omega) ?_; intro v1 w3 ho1 hg1 ha1 hn1; have HB3 := Lib.hid ((((Below.refl wz.heap.size wz).drew).alloc (Nat.le_refl _) (.cells #[] 67)).grown hg1 (by simp <;> omega) (fun g hg => by simp [Value.ownBlock] at hg; omega)); have ws3 := HB3.out.size; have hx3 : w.heap.size < w3.heap.size := Nat.lt_of_lt_of_le hzl ws3; have y0 := (HB3.out.cell (p := ⟨w.heap.size, 0, none⟩) hzl).trans z0; have y1 := (HB3.out.cell (p := ⟨w.heap.size, 1, none⟩) hzl).trans z1; have HO1 := Lib.hid ho1; clear ho1 hg1 ha1 hn1) | (refine step_app _ rfl (.tmp 58) (.tmp 61) 36 rfl wz.heap.size 67 i0 (.agg #[.string ⟨#[]⟩, .bool false]) 2 24 Tryz.underlying36 HI.out HZ.out.1 HZ.out.2.1 HZ.out.2.2 rfl (by decide) (.slice (some ⟨wz.heap.size, 0, none⟩) 0 0) 0 [] (by first | (simp [Act.eval]; done) | (simp [Act.eval, Act.put]; done)) ((Tr.owns_e1 wz.drew _ _ _ (Nat.le_refl _)).alloc (.cells #[.string ⟨hn.toArray⟩, .bool false] 67)) (fun _ => True) ((some ⟨lb, lo, none⟩)) k c (Tr.hvs (L.take k)) (by first | (simp [Act.eval]; done) | (simp [Act.eval, Act.put]; done)) (by rw [Tr.hvs_len, List.length_take]; omega) (HRt.out _ ((((Below.refl _ _).drew).alloc (Nat.le_refl _) _).alloc (by simp) _)) (Tr.hvs_one _) (by unfold maxLen; omega) (by omega) (by simp <;> omega) ?_; intro v1 w3 ho1 hg1 ha1 hn1; have HB3 := Lib.hid (((((Below.refl wz.heap.size wz).drew).alloc (Nat.le_refl _) (.cells #[] 67)).alloc (by simp) (.cells #[.string ⟨hn.toArray⟩, .bool false] 67)).grown hg1 (by simp <;> omega) (fun g hg => by simp [Value.ownBlock] at hg; omega)); have ws3 := HB3.out.size; have hx3 : w.heap.size < w3.heap.size := Nat.lt_of_lt_of_le hzl ws3; have y0 := (HB3.out.cell (p := ⟨w.heap.size, 0, none⟩) hzl).trans z0; have y1 := (HB3.out.cell (p := ⟨w.heap.size, 1, none⟩) hzl).trans z1; have hrs := Lib.hid (Tr.rd_over (X := (wz.drew.alloc (.cells #[] 67)).alloc (.cells #[.string ⟨hn.toArray⟩, .bool false] 67)) (row := some wz.heap.size) hg1 (Rd.fresh (wz.drew.alloc (.cells #[] 67)) [.string ⟨hn.toArray⟩, .bool false] 67 (wz.heap.size + 1) (by simp)) (fun i hi e => by have e2 := Option.some.inj e; have hi2 : i = wz.heap.size + 1 := hi; omega)); have HO1 := Lib.hid ho1; clear ho1 hg1 ha1 hn1) | (refine step_app _ rfl (.tmp 58) (.tmp 61) 36 rfl wz.heap.size 67 i0 (.agg #[.string ⟨#[]⟩, .bool false]) 2 24 Tryz.underlying36 HI.out HZ.out.1 HZ.out.2.1 HZ.out.2.2 rfl (by decide) (.slice (some ⟨wz.heap.size + 1, 0, none⟩) 0 0) 0 [] (by first | (simp [Act.eval]; done) | (simp [Act.eval, Act.put]; done)) HO3.out (fun _ => True) ((some ⟨lb, lo, none⟩)) k c (Tr.hvs (L.take k)) (by first | (simp [Act.eval]; done) | (simp [Act.eval, Act.put]; done)) (by rw [Tr.hvs_len, List.length_take]; omega) (HRt.out _ ((((Below.refl _ _).drew).alloc (Nat.le_refl _) _).alloc (by simp) _)) (Tr.hvs_one _) (by unfold maxLen; omega) (by omega) (by simp <;> omega) ?_; intro v1 w3 ho1 hg1 ha1 hn1; have HB3 := Lib.hid (((((Below.refl wz.heap.size wz).drew).alloc (Nat.le_refl _) (.cells #[.string ⟨hn.toArray⟩, .bool false] 67)).alloc (by simp) (.cells #[] 67)).grown hg1 (by simp <;> omega) (fun g hg => by simp [Value.ownBlock] at hg; omega)); have ws3 := HB3.out.size; have hx3 : w.heap.size < w3.heap.size := Nat.lt_of_lt_of_le hzl ws3; have y0 := (HB3.out.cell (p := ⟨w.heap.size, 0, none⟩) hzl).trans z0; have y1 := (HB3.out.cell (p := ⟨w.heap.size, 1, none⟩) hzl).trans z1; have hrs := Lib.hid (Tr.rd_over (X := (wz.drew.alloc (.cells #[.string ⟨hn.toArray⟩, .bool false] 67)).alloc (.cells #[] 67)) (row := some (wz.heap.size + 1)) hg1 ((Rd.fresh wz.drew [.string ⟨hn.toArray⟩, .bool false] 67 wz.heap.size rfl).keep (by simp) (fun b hb _ => Below.heap_alloc _ _ b hb)) (fun i hi e => by have e2 := Option.some.inj e; have hi2 : i = wz.heap.size := hi; omega)); have HO1 := Lib.hid ho1; clear ho1 hg1 ha1 hn1) | (refine step_app _ rfl (.tmp 62) (.tmp 64) 36 rfl wz.heap.size 67 i0 (.agg #[.string ⟨#[]⟩, .bool false]) 2 24 Tryz.underlying36 HI.out HZ.out.1 HZ.out.2.1 HZ.out.2.2 rfl (by decide) v1 (0 + k) _ (by first | (simp [Act.eval]; done) | (simp [Act.eval, Act.put]; done)) (HO1.out.alloc (.cells #[.string ⟨hn.toArray⟩, .bool false] 67)) (fun _ => True) (some ⟨w3.heap.size, 0, none⟩) 1 1 [.string ⟨hn.toArray⟩, .bool false] (by first | (simp [Act.eval]; done) | (simp [Act.eval, Act.put]; done)) (by simp) ((Rd.fresh w3 [.string ⟨hn.toArray⟩, .bool false] 67 _ rfl).mono (fun _ _ _ => trivial)) (by intro u hu; simp at hu; rcases hu with rfl | rfl <;> rfl) (by unfold maxLen; omega) (by omega) (by first | omega | (simp; omega)) ?_; intro v2 w4 ho2 hg2 ha2 hn2; have HB4 := Lib.hid ((HB3.out.alloc ws3 (.cells #[.string ⟨hn.toArray⟩, .bool false] 67)).grown hg2 (by first | omega | (simp; omega)) (fun g hg => (HO1.out.lt g hg).1)); have ws4 := HB4.out.size; have HO2 := Lib.hid ho2; clear ho2 hg2 ha2 hn2) | (refine step_app _ rfl (.tmp 62) (.tmp 64) 36 rfl wz.heap.size 67 i0 (.agg #[.string ⟨#[]⟩, .bool false]) 2 24 Tryz.underlying36 HI.out HZ.out.1 HZ.out.2.1 HZ.out.2.2 rfl (by decide) v1 (0 + k) _ (by first | (simp [Act.eval]; done) | (simp [Act.eval, Act.put]; done)) HO1.out (fun _ => True) (some ⟨wz.heap.size + 1, 0, none⟩) 1 1 [.string ⟨hn.toArray⟩, .bool false] (by first | (simp [Act.eval]; done) | (simp [Act.eval, Act.put]; done)) (by simp) hrs.out (by intro u hu; simp at hu; rcases hu with rfl | rfl <;> rfl) (by unfold maxLen; omega) (by omega) (by first | omega | (simp; omega)) ?_; intro v2 w4 ho2 hg2 ha2 hn2; have HB4 := Lib.hid ((HB3.out).grown hg2 (by first | omega | (simp; omega)) (fun g hg => (HO1.out.lt g hg).1)); have ws4 := HB4.out.size; have HO2 := Lib.hid ho2; clear ho2 hg2 ha2 hn2) | (refine step_app _ rfl (.tmp 62) (.tmp 64) 36 rfl wz.heap.size 67 i0 (.agg #[.string ⟨#[]⟩, .bool false]) 2 24 Tryz.underlying36 HI.out HZ.out.1 HZ.out.2.1 HZ.out.2.2 rfl (by decide) v1 (0 + k) _ (by first | (simp [Act.eval]; done) | (simp [Act.eval, Act.put]; done)) HO1.out (fun _ => True) (some ⟨wz.heap.size, 0, none⟩) 1 1 [.string ⟨hn.toArray⟩, .bool false] (by first | (simp [Act.eval]; done) | (simp [Act.eval, Act.put]; done)) (by simp) hrs.out (by intro u hu; simp at hu; rcases hu with rfl | rfl <;> rfl) (by unfold maxLen; omega) (by omega) (by first | omega | (simp; omega)) ?_; intro v2 w4 ho2 hg2 ha2 hn2; have HB4 := Lib.hid ((HB3.out).grown hg2 (by first | omega | (simp; omega)) (fun g hg => (HO1.out.lt g hg).1)); have ws4 := HB4.out.size; have HO2 := Lib.hid ho2; clear ho2 hg2 ha2 hn2))
              all_goals
                go_wp2_with (at_builtin; refine wpList_app _ rfl (.tmp 66) (.tmp 69) 36 rfl wz.heap.size 67 i0 (.agg #[.string ⟨#[]⟩, .bool false]) 2 24 Tryz.underlying36 HI.out HZ.out.1 HZ.out.2.1 HZ.out.2.2 rfl (by decide) v2 (0 + k + 1) _ rfl HO2.out (fun _ => True) A9 (L.length - k) (c - k) (Tr.hvs (L.drop k)) (by simp [Act.eval]) (by rw [Tr.hvs_len, List.length_drop]) (HRd.out _ HB4.out) (Tr.hvs_one _) (by unfold maxLen; omega) (by omega) ws4 ?_; intro v3 w5 ho3 hg3 ha3 hn3; have HB5 := Lib.hid (HB4.out.grown hg3 ws4 (fun g hg => (HO2.out.lt g hg).1)); have HO3' := Lib.hid ho3; clear ho3 hg3 ha3 hn3)
                go_ret
                exact ⟨_, rfl, by rw [HRes.out]; exact Tr.lay_end (h := (hn, false)) HO3'.out rfl hk rfl, HBw.out.trans (HB5.out.mono HBw.out.size)⟩
            · have HRes : Hid (Tr.layH L (hn, true) = L) := Lib.hid (Tr.lay_same h1 HRk.out (Prod.ext he hyb))
              rw [he] at HBf ec
              rw [hyb] at ed
              have hself : (hn == hn) = true := by simp
              clear HN HRk hbf he hyb
              have g2 := fun d os => cell_regrown ec d os
              have g3 := fun d os => cell_regrown ed d os
              go_wp2_with fail
              refine wp_region_quiet_below (by kernel_rfl) (by kernel_rfl) ?_
              repeat (go_big_quiet_step ((go_at_call 23; exact Calls.regrown_of (HBf.out _))))
              refine wpQuiet_nil ?_
              intro _ hw'
              obtain ⟨⟨dq, osq⟩, hw''⟩ := hw'
              subst hw''
              have HQr := Lib.hid (below_regrown wr dq osq)
              have HWq := Lib.hid (HW.out.trans ((below_regrown wr dq osq).mono HW.out.size))
              clear g0 g1 g2 g3
              generalize grow (redrawn wr dq) osq = wq at *
              have z0q : wq.cell? ⟨w.heap.size, 0, none⟩ = some (.string ⟨hn.toArray⟩) := (HQr.out.cell (p := ⟨w.heap.size, 0, none⟩) hbl).trans b0
              have z1q : wq.cell? ⟨w.heap.size, 1, none⟩ = some (.bool true) := (HQr.out.cell (p := ⟨w.heap.size, 1, none⟩) hbl).trans b1
              have hql : w.heap.size < wq.heap.size := Nat.lt_of_lt_of_le hbl HQr.out.size
              have ecq := (HQr.out.cell (p := ⟨lb, lo + k * 2, none⟩) hel).trans ec
              have edq := (HQr.out.cell (p := ⟨lb, lo + k * 2 + 1, none⟩) hel).trans ed
              have q0 := fun d os => cell_regrown z0q d os
              have q1 := fun d os => cell_regrown z1q d os
              have q2 := fun d os => cell_regrown ecq d os
              have q3 := fun d os => cell_regrown edq d os
              go_wp2_with fail
              refine wp_region_quiet_below (by kernel_rfl) (by kernel_rfl) ?_
              repeat (go_big_quiet_step (fail))
              refine wpQuiet_nil ?_
              intro _ hw'
              obtain ⟨⟨dz, osz⟩, hw''⟩ := hw'
              subst hw''
              have HQz := Lib.hid (below_regrown wq dz osz)
              have HWz := Lib.hid (HWq.out.trans ((below_regrown wq dz osz).mono HWq.out.size))
              clear q0 q1 q2 q3
              generalize grow (redrawn wq dz) osz = wz at *
              have z0 : wz.cell? ⟨w.heap.size, 0, none⟩ = some (.string ⟨hn.toArray⟩) := (HQz.out.cell (p := ⟨w.heap.size, 0, none⟩) hql).trans z0q
              have z1 : wz.cell? ⟨w.heap.size, 1, none⟩ = some (.bool true) := (HQz.out.cell (p := ⟨w.heap.size, 1, none⟩) hql).trans z1q
              have hzl : w.heap.size < wz.heap.size := Nat.lt_of_lt_of_le hql HQz.out.size
              have HBw := Lib.hid (HAw.out _ HWz.out)
              go_wp2_with fail
              go_ret
              exact ⟨_, rfl, by rw [HRes.out]; exact ⟨_, c, rfl, hc, HCM.out, HR.out.below HBw.out⟩, HBw.out⟩
        · have HRes : Hid (Tr.layH L (hn, hb) = L.take k ++ (hn, hb) :: L.drop k) := Lib.hid (Tr.lay_put hk HRk.out (fun _ => by
            cases e : Tr.ltH L[k] (hn, hb) with
            | false => rfl
            | true =>
              rw [Tr.ltH_iff] at e
              rcases e with e | ⟨e, _⟩
              · rw [hbf] at e; cases e
              · exact absurd e he) (fun _ e => he (congrArg Prod.fst e)))
          have hne : (L[k].1 == hn) = false := by rw [beq_eq_false_iff_ne]; exact he
          clear HN HRk hbf he
          have g2 := fun d os => cell_regrown ec d os
          have g3 := fun d os => cell_regrown ed d os
          generalize L[k].1 = yn at *
          generalize L[k].2 = yb at *
          go_wp2_with fail
          refine wp_region_quiet_below (by kernel_rfl) (by kernel_rfl) ?_
          repeat (go_big_quiet_step ((go_at_call 23; exact Calls.regrown_of (HBf.out _))))
          refine wpQuiet_nil ?_
          intro _ hw'
          obtain ⟨⟨dq, osq⟩, hw''⟩ := hw'
          subst hw''
          have HQr := Lib.hid (below_regrown wr dq osq)
          have HWq := Lib.hid (HW.out.trans ((below_regrown wr dq osq).mono HW.out.size))
          clear g0 g1 g2 g3
          generalize grow (redrawn wr dq) osq = wq at *
          have z0q : wq.cell? ⟨w.heap.size, 0, none⟩ = some (.string ⟨hn.toArray⟩) := (HQr.out.cell (p := ⟨w.heap.size, 0, none⟩) hbl).trans b0
          have z1q : wq.cell? ⟨w.heap.size, 1, none⟩ = some (.bool hb) := (HQr.out.cell (p := ⟨w.heap.size, 1, none⟩) hbl).trans b1
          have hql : w.heap.size < wq.heap.size := Nat.lt_of_lt_of_le hbl HQr.out.size
          have ecq := (HQr.out.cell (p := ⟨lb, lo + k * 2, none⟩) hel).trans ec
          have edq := (HQr.out.cell (p := ⟨lb, lo + k * 2 + 1, none⟩) hel).trans ed
          have q0 := fun d os => cell_regrown z0q d os
          have q1 := fun d os => cell_regrown z1q d os
          have q2 := fun d os => cell_regrown ecq d os
          have q3 := fun d os => cell_regrown edq d os
          go_wp2_with fail
          refine wp_region_quiet_below (by kernel_rfl) (by kernel_rfl) ?_
          repeat (go_big_quiet_step (fail))
          refine wpQuiet_nil ?_
          intro _ hw'
          obtain ⟨⟨dz, osz⟩, hw''⟩ := hw'
          subst hw''
          have HQz := Lib.hid (below_regrown wq dz osz)
          have HWz := Lib.hid (HWq.out.trans ((below_regrown wq dz osz).mono HWq.out.size))
          clear q0 q1 q2 q3
          generalize grow (redrawn wq dz) osz = wz at *
          have z0 : wz.cell? ⟨w.heap.size, 0, none⟩ = some (.string ⟨hn.toArray⟩) := (HQz.out.cell (p := ⟨w.heap.size, 0, none⟩) hql).trans z0q
          have z1 : wz.cell? ⟨w.heap.size, 1, none⟩ = some (.bool hb) := (HQz.out.cell (p := ⟨w.heap.size, 1, none⟩) hql).trans z1q
          have hzl : w.heap.size < wz.heap.size := Nat.lt_of_lt_of_le hql HQz.out.size
          have HBw := Lib.hid (HAw.out _ HWz.out)
          have k8 := fun W => Tr.slice_toH W (some ⟨lb, lo, none⟩) L.length k c hk hc
          obtain ⟨A9, h9⟩ : ∃ A9 : Option Addr, A9 = (if c = k then ((some ⟨lb, lo, none⟩) : Option Addr) else Option.map (fun x : Addr => x.add (k * 2)) ((some ⟨lb, lo, none⟩) : Option Addr)) := ⟨_, rfl⟩
          have k9 := fun W => Tr.slice_fromH W (some ⟨lb, lo, none⟩) L.length k c hk hc A9 h9
          have HRd : Hid (∀ W, Below wz.heap.size wz W → Rd W (fun _ => True) A9 (Tr.hvs (L.drop k))) := Lib.hid fun W hW => by rw [h9]; exact Tr.rd_dropH ((HR.out.below HBw.out).below hW) hk hc
          have HRt : Hid (∀ W, Below wz.heap.size wz W → Rd W (fun _ => True) (some ⟨lb, lo, none⟩) (Tr.hvs (L.take k))) := Lib.hid fun W hW => by rw [← Tr.hvs_take L k hk]; exact Tr.Rd.take' _ ((HR.out.below HBw.out).below hW)
          have HO3 : Hid (((wz.drew.alloc (.cells #[.string ⟨hn.toArray⟩, .bool hb] 67)).alloc (.cells #[] 67)).ownsRow wz.heap.size 67 2 (.slice (some ⟨wz.heap.size + 1, 0, none⟩) 0 0) 0 []) := Lib.hid (by have := Tr.owns_e1 (wz.drew.alloc (.cells #[.string ⟨hn.toArray⟩, .bool hb] 67)) wz.heap.size 67 2 (by simp); simpa using this)
          clear h9
          go_wp2_with fail
          go_region_law (first | (refine step_app _ rfl (.tmp 58) (.tmp 61) 36 rfl wz.heap.size 67 i0 (.agg #[.string ⟨#[]⟩, .bool false]) 2 24 Tryz.underlying36 HI.out HZ.out.1 HZ.out.2.1 HZ.out.2.2 rfl (by decide) (.slice (some ⟨wz.heap.size, 0, none⟩) 0 0) 0 [] (by first | (simp [Act.eval]; done) | (simp [Act.eval, Act.put]; done)) (Tr.owns_e1 wz.drew _ _ _ (Nat.le_refl _)) (fun _ => True) ((some ⟨lb, lo, none⟩)) k c (Tr.hvs (L.take k)) (by first | (simp [Act.eval]; done) | (simp [Act.eval, Act.put]; done)) (by rw [Tr.hvs_len, List.length_take]; omega) (HRt.out _ (((Below.refl _ _).drew).alloc (Nat.le_refl _) _)) (Tr.hvs_one _) (by unfold maxLen; omega) (by omega) (by simp <;> omega) ?_; intro v1 w3 ho1 hg1 ha1 hn1; have HB3 := Lib.hid ((((Below.refl wz.heap.size wz).drew).alloc (Nat.le_refl _) (.cells #[] 67)).grown hg1 (by simp <;> omega) (fun g hg => by simp [Value.ownBlock] at hg; omega)); have ws3 := HB3.out.size; have hx3 : w.heap.size < w3.heap.size := Nat.lt_of_lt_of_le hzl ws3; have y0 := (HB3.out.cell (p := ⟨w.heap.size, 0, none⟩) hzl).trans z0; have y1 := (HB3.out.cell (p := ⟨w.heap.size, 1, none⟩) hzl).trans z1; have HO1 := Lib.hid ho1; clear ho1 hg1 ha1 hn1) | (refine step_app _ rfl (.tmp 58) (.tmp 61) 36 rfl wz.heap.size 67 i0 (.agg #[.string ⟨#[]⟩, .bool false]) 2 24 Tryz.underlying36 HI.out HZ.out.1 HZ.out.2.1 HZ.out.2.2 rfl (by decide) (.slice (some ⟨wz.heap.size, 0, none⟩) 0 0) 0 [] (by first | (simp [Act.eval]; done) | (simp [Act.eval, Act.put]; done)) ((Tr.owns_e1 wz.drew _ _ _ (Nat.le_refl _)).alloc (.cells #[.string ⟨hn.toArray⟩, .bool hb] 67)) (fun _ => True) ((some ⟨lb, lo, none⟩)) k c (Tr.hvs (L.take k)) (by first | (simp [Act.eval]; done) | (simp [Act.eval, Act.put]; done)) (by rw [Tr.hvs_len, List.length_take]; omega) (HRt.out _ ((((Below.refl _ _).drew).alloc (Nat.le_refl _) _).alloc (by simp) _)) (Tr.hvs_one _) (by unfold maxLen; omega) (by omega) (by simp <;> omega) ?_; intro v1 w3 ho1 hg1 ha1 hn1; have HB3 := Lib.hid (((((Below.refl wz.heap.size wz).drew).alloc (Nat.le_refl _) (.cells #[] 67)).alloc (by simp) (.cells #[.string ⟨hn.toArray⟩, .bool hb] 67)).grown hg1 (by simp <;> omega) (fun g hg => by simp [Value.ownBlock] at hg; omega)); have ws3 := HB3.out.size; have hx3 : w.heap.size < w3.heap.size := Nat.lt_of_lt_of_le hzl ws3; have y0 := (HB3.out.cell (p := ⟨w.heap.size, 0, none⟩) hzl).trans z0; have y1 := (HB3.out.cell (p := ⟨w.heap.size, 1, none⟩) hzl).trans z1; have hrs := Lib.hid (Tr.rd_over (X := (wz.drew.alloc (.cells #[] 67)).alloc (.cells #[.string ⟨hn.toArray⟩, .bool hb] 67)) (row := some wz.heap.size) hg1 (Rd.fresh (wz.drew.alloc (.cells #[] 67)) [.string ⟨hn.toArray⟩, .bool hb] 67 (wz.heap.size + 1) (by simp)) (fun i hi e => by have e2 := Option.some.inj e; have hi2 : i = wz.heap.size + 1 := hi; omega)); have HO1 := Lib.hid ho1; clear ho1 hg1 ha1 hn1) | (refine step_app _ rfl (.tmp 58) (.tmp 61) 36 rfl wz.heap.size 67 i0 (.agg #[.string ⟨#[]⟩, .bool false]) 2 24 Tryz.underlying36 HI.out HZ.out.1 HZ.out.2.1 HZ.out.2.2 rfl (by decide) (.slice (some ⟨wz.heap.size + 1, 0, none⟩) 0 0) 0 [] (by first | (simp [Act.eval]; done) | (simp [Act.eval, Act.put]; done)) HO3.out (fun _ => True) ((some ⟨lb, lo, none⟩)) k c (Tr.hvs (L.take k)) (by first | (simp [Act.eval]; done) | (simp [Act.eval, Act.put]; done)) (by rw [Tr.hvs_len, List.length_take]; omega) (HRt.out _ ((((Below.refl _ _).drew).alloc (Nat.le_refl _) _).alloc (by simp) _)) (Tr.hvs_one _) (by unfold maxLen; omega) (by omega) (by simp <;> omega) ?_; intro v1 w3 ho1 hg1 ha1 hn1; have HB3 := Lib.hid (((((Below.refl wz.heap.size wz).drew).alloc (Nat.le_refl _) (.cells #[.string ⟨hn.toArray⟩, .bool hb] 67)).alloc (by simp) (.cells #[] 67)).grown hg1 (by simp <;> omega) (fun g hg => by simp [Value.ownBlock] at hg; omega)); have ws3 := HB3.out.size; have hx3 : w.heap.size < w3.heap.size := Nat.lt_of_lt_of_le hzl ws3; have y0 := (HB3.out.cell (p := ⟨w.heap.size, 0, none⟩) hzl).trans z0; have y1 := (HB3.out.cell (p := ⟨w.heap.size, 1, none⟩) hzl).trans z1; have hrs := Lib.hid (Tr.rd_over (X := (wz.drew.alloc (.cells #[.string ⟨hn.toArray⟩, .bool hb] 67)).alloc (.cells #[] 67)) (row := some (wz.heap.size + 1)) hg1 ((Rd.fresh wz.drew [.string ⟨hn.toArray⟩, .bool hb] 67 wz.heap.size rfl).keep (by simp) (fun b hb _ => Below.heap_alloc _ _ b hb)) (fun i hi e => by have e2 := Option.some.inj e; have hi2 : i = wz.heap.size := hi; omega)); have HO1 := Lib.hid ho1; clear ho1 hg1 ha1 hn1) | (refine step_app _ rfl (.tmp 62) (.tmp 64) 36 rfl wz.heap.size 67 i0 (.agg #[.string ⟨#[]⟩, .bool false]) 2 24 Tryz.underlying36 HI.out HZ.out.1 HZ.out.2.1 HZ.out.2.2 rfl (by decide) v1 (0 + k) _ (by first | (simp [Act.eval]; done) | (simp [Act.eval, Act.put]; done)) (HO1.out.alloc (.cells #[.string ⟨hn.toArray⟩, .bool hb] 67)) (fun _ => True) (some ⟨w3.heap.size, 0, none⟩) 1 1 [.string ⟨hn.toArray⟩, .bool hb] (by first | (simp [Act.eval]; done) | (simp [Act.eval, Act.put]; done)) (by simp) ((Rd.fresh w3 [.string ⟨hn.toArray⟩, .bool hb] 67 _ rfl).mono (fun _ _ _ => trivial)) (by intro u hu; simp at hu; rcases hu with rfl | rfl <;> rfl) (by unfold maxLen; omega) (by omega) (by first | omega | (simp; omega)) ?_; intro v2 w4 ho2 hg2 ha2 hn2; have HB4 := Lib.hid ((HB3.out.alloc ws3 (.cells #[.string ⟨hn.toArray⟩, .bool hb] 67)).grown hg2 (by first | omega | (simp; omega)) (fun g hg => (HO1.out.lt g hg).1)); have ws4 := HB4.out.size; have HO2 := Lib.hid ho2; clear ho2 hg2 ha2 hn2) | (refine step_app _ rfl (.tmp 62) (.tmp 64) 36 rfl wz.heap.size 67 i0 (.agg #[.string ⟨#[]⟩, .bool false]) 2 24 Tryz.underlying36 HI.out HZ.out.1 HZ.out.2.1 HZ.out.2.2 rfl (by decide) v1 (0 + k) _ (by first | (simp [Act.eval]; done) | (simp [Act.eval, Act.put]; done)) HO1.out (fun _ => True) (some ⟨wz.heap.size + 1, 0, none⟩) 1 1 [.string ⟨hn.toArray⟩, .bool hb] (by first | (simp [Act.eval]; done) | (simp [Act.eval, Act.put]; done)) (by simp) hrs.out (by intro u hu; simp at hu; rcases hu with rfl | rfl <;> rfl) (by unfold maxLen; omega) (by omega) (by first | omega | (simp; omega)) ?_; intro v2 w4 ho2 hg2 ha2 hn2; have HB4 := Lib.hid ((HB3.out).grown hg2 (by first | omega | (simp; omega)) (fun g hg => (HO1.out.lt g hg).1)); have ws4 := HB4.out.size; have HO2 := Lib.hid ho2; clear ho2 hg2 ha2 hn2) | (refine step_app _ rfl (.tmp 62) (.tmp 64) 36 rfl wz.heap.size 67 i0 (.agg #[.string ⟨#[]⟩, .bool false]) 2 24 Tryz.underlying36 HI.out HZ.out.1 HZ.out.2.1 HZ.out.2.2 rfl (by decide) v1 (0 + k) _ (by first | (simp [Act.eval]; done) | (simp [Act.eval, Act.put]; done)) HO1.out (fun _ => True) (some ⟨wz.heap.size, 0, none⟩) 1 1 [.string ⟨hn.toArray⟩, .bool hb] (by first | (simp [Act.eval]; done) | (simp [Act.eval, Act.put]; done)) (by simp) hrs.out (by intro u hu; simp at hu; rcases hu with rfl | rfl <;> rfl) (by unfold maxLen; omega) (by omega) (by first | omega | (simp; omega)) ?_; intro v2 w4 ho2 hg2 ha2 hn2; have HB4 := Lib.hid ((HB3.out).grown hg2 (by first | omega | (simp; omega)) (fun g hg => (HO1.out.lt g hg).1)); have ws4 := HB4.out.size; have HO2 := Lib.hid ho2; clear ho2 hg2 ha2 hn2))
          all_goals
            go_wp2_with (at_builtin; refine wpList_app _ rfl (.tmp 66) (.tmp 69) 36 rfl wz.heap.size 67 i0 (.agg #[.string ⟨#[]⟩, .bool false]) 2 24 Tryz.underlying36 HI.out HZ.out.1 HZ.out.2.1 HZ.out.2.2 rfl (by decide) v2 (0 + k + 1) _ rfl HO2.out (fun _ => True) A9 (L.length - k) (c - k) (Tr.hvs (L.drop k)) (by simp [Act.eval]) (by rw [Tr.hvs_len, List.length_drop]) (HRd.out _ HB4.out) (Tr.hvs_one _) (by unfold maxLen; omega) (by omega) ws4 ?_; intro v3 w5 ho3 hg3 ha3 hn3; have HB5 := Lib.hid (HB4.out.grown hg3 ws4 (fun g hg => (HO2.out.lt g hg).1)); have HO3' := Lib.hid ho3; clear ho3 hg3 ha3 hn3)
            go_ret
            exact ⟨_, rfl, by rw [HRes.out]; exact Tr.lay_end (h := (hn, hb)) HO3'.out rfl hk rfl, HBw.out.trans (HB5.out.mono HBw.out.size)⟩
      · have HN2 : Hid (∀ j (h : j < L.length), j < k + 1 → Tr.ltH L[j] (hn, hb) = true) := Lib.hid fun j h hj => by
          by_cases e : j = k
          · subst e; rw [Tr.ltH_iff]; exact .inl hbf
          · exact HRk.out j h (by omega)
        have HBf : Hid (∀ W, Calls Tryz.prog 23 #[.string ⟨L[k].1.toArray⟩, .string ⟨hn.toArray⟩] W fun e w' => e = .returned (.bool true) ∧ Below W.heap.size W w') := Lib.hid fun W => by
          have := HBb.out W
          rw [hbf] at this
          exact this
        clear HBb HN HRk hbf
        have g2 := fun d os => cell_regrown ec d os
        have g3 := fun d os => cell_regrown ed d os
        generalize L[k].1 = yn at *
        generalize L[k].2 = yb at *
        go_wp2_with fail
        refine wp_region_quiet_below (by kernel_rfl) (by kernel_rfl) ?_
        repeat (go_big_quiet_step ((go_at_call 23; exact Calls.regrown_of (HBf.out _))))
        refine wpQuiet_nil ?_
        intro _ hw'
        obtain ⟨⟨dq, osq⟩, hw''⟩ := hw'
        subst hw''
        have HQr := Lib.hid (below_regrown wr dq osq)
        have HWq := Lib.hid (HW.out.trans ((below_regrown wr dq osq).mono HW.out.size))
        clear g0 g1 g2 g3
        generalize grow (redrawn wr dq) osq = wq at *
        go_wp2_with fail
        go_roundw
        case rel => exact ⟨k + 1, by omega, by go_num, HWq, HN2⟩
        case measure => simp [intOf]; omega
    · have h1I : ¬ (k : Int) < (L.length : Int) := by omega
      have HRes : Hid (Tr.layH L (hn, hb) = L.take k ++ (hn, hb) :: L.drop k) := Lib.hid (Tr.lay_put hk HRk.out (fun h => absurd h h1) (fun h => absurd h h1))
      clear HN HRk
      go_wp2_with fail
      refine wp_region_quiet_below (by kernel_rfl) (by kernel_rfl) ?_
      repeat (go_big_quiet_step (fail))
      refine wpQuiet_nil ?_
      intro _ hw'
      obtain ⟨⟨dq, osq⟩, hw''⟩ := hw'
      subst hw''
      have HQr := Lib.hid (below_regrown wr dq osq)
      have HWq := Lib.hid (HW.out.trans ((below_regrown wr dq osq).mono HW.out.size))
      clear g0 g1
      generalize grow (redrawn wr dq) osq = wq at *
      have z0q : wq.cell? ⟨w.heap.size, 0, none⟩ = some (.string ⟨hn.toArray⟩) := (HQr.out.cell (p := ⟨w.heap.size, 0, none⟩) hbl).trans b0
      have z1q : wq.cell? ⟨w.heap.size, 1, none⟩ = some (.bool hb) := (HQr.out.cell (p := ⟨w.heap.size, 1, none⟩) hbl).trans b1
      have hql : w.heap.size < wq.heap.size := Nat.lt_of_lt_of_le hbl HQr.out.size
      have q0 := fun d os => cell_regrown z0q d os
      have q1 := fun d os => cell_regrown z1q d os
      go_wp2_with fail
      refine wp_region_quiet_below (by kernel_rfl) (by kernel_rfl) ?_
      repeat (go_big_quiet_step (fail))
      refine wpQuiet_nil ?_
      intro _ hw'
      obtain ⟨⟨dz, osz⟩, hw''⟩ := hw'
      subst hw''
      have HQz := Lib.hid (below_regrown wq dz osz)
      have HWz := Lib.hid (HWq.out.trans ((below_regrown wq dz osz).mono HWq.out.size))
      clear q0 q1
      generalize grow (redrawn wq dz) osz = wz at *
      have z0 : wz.cell? ⟨w.heap.size, 0, none⟩ = some (.string ⟨hn.toArray⟩) := (HQz.out.cell (p := ⟨w.heap.size, 0, none⟩) hql).trans z0q
      have z1 : wz.cell? ⟨w.heap.size, 1, none⟩ = some (.bool hb) := (HQz.out.cell (p := ⟨w.heap.size, 1, none⟩) hql).trans z1q
      have hzl : w.heap.size < wz.heap.size := Nat.lt_of_lt_of_le hql HQz.out.size
      have HBw := Lib.hid (HAw.out _ HWz.out)
      have k8 := fun W => Tr.slice_toH W A L.length k c hk hc
      obtain ⟨A9, h9⟩ : ∃ A9 : Option Addr, A9 = (if c = k then (A : Option Addr) else Option.map (fun x : Addr => x.add (k * 2)) (A : Option Addr)) := ⟨_, rfl⟩
      have k9 := fun W => Tr.slice_fromH W A L.length k c hk hc A9 h9
      have HRd : Hid (∀ W, Below wz.heap.size wz W → Rd W (fun _ => True) A9 (Tr.hvs (L.drop k))) := Lib.hid fun W hW => by rw [h9]; exact Tr.rd_dropH ((HR.out.below HBw.out).below hW) hk hc
      have HRt : Hid (∀ W, Below wz.heap.size wz W → Rd W (fun _ => True) A (Tr.hvs (L.take k))) := Lib.hid fun W hW => by rw [← Tr.hvs_take L k hk]; exact Tr.Rd.take' _ ((HR.out.below HBw.out).below hW)
      have HO3 : Hid (((wz.drew.alloc (.cells #[.string ⟨hn.toArray⟩, .bool hb] 67)).alloc (.cells #[] 67)).ownsRow wz.heap.size 67 2 (.slice (some ⟨wz.heap.size + 1, 0, none⟩) 0 0) 0 []) := Lib.hid (by have := Tr.owns_e1 (wz.drew.alloc (.cells #[.string ⟨hn.toArray⟩, .bool hb] 67)) wz.heap.size 67 2 (by simp); simpa using this)
      clear h9
      go_wp2_with fail
      go_region_law (first | (refine step_app _ rfl (.tmp 58) (.tmp 61) 36 rfl wz.heap.size 67 i0 (.agg #[.string ⟨#[]⟩, .bool false]) 2 24 Tryz.underlying36 HI.out HZ.out.1 HZ.out.2.1 HZ.out.2.2 rfl (by decide) (.slice (some ⟨wz.heap.size, 0, none⟩) 0 0) 0 [] (by first | (simp [Act.eval]; done) | (simp [Act.eval, Act.put]; done)) (Tr.owns_e1 wz.drew _ _ _ (Nat.le_refl _)) (fun _ => True) (A) k c (Tr.hvs (L.take k)) (by first | (simp [Act.eval]; done) | (simp [Act.eval, Act.put]; done)) (by rw [Tr.hvs_len, List.length_take]; omega) (HRt.out _ (((Below.refl _ _).drew).alloc (Nat.le_refl _) _)) (Tr.hvs_one _) (by unfold maxLen; omega) (by omega) (by simp <;> omega) ?_; intro v1 w3 ho1 hg1 ha1 hn1; have HB3 := Lib.hid ((((Below.refl wz.heap.size wz).drew).alloc (Nat.le_refl _) (.cells #[] 67)).grown hg1 (by simp <;> omega) (fun g hg => by simp [Value.ownBlock] at hg; omega)); have ws3 := HB3.out.size; have hx3 : w.heap.size < w3.heap.size := Nat.lt_of_lt_of_le hzl ws3; have y0 := (HB3.out.cell (p := ⟨w.heap.size, 0, none⟩) hzl).trans z0; have y1 := (HB3.out.cell (p := ⟨w.heap.size, 1, none⟩) hzl).trans z1; have HO1 := Lib.hid ho1; clear ho1 hg1 ha1 hn1) | (refine step_app _ rfl (.tmp 58) (.tmp 61) 36 rfl wz.heap.size 67 i0 (.agg #[.string ⟨#[]⟩, .bool false]) 2 24 Tryz.underlying36 HI.out HZ.out.1 HZ.out.2.1 HZ.out.2.2 rfl (by decide) (.slice (some ⟨wz.heap.size, 0, none⟩) 0 0) 0 [] (by first | (simp [Act.eval]; done) | (simp [Act.eval, Act.put]; done)) ((Tr.owns_e1 wz.drew _ _ _ (Nat.le_refl _)).alloc (.cells #[.string ⟨hn.toArray⟩, .bool hb] 67)) (fun _ => True) (A) k c (Tr.hvs (L.take k)) (by first | (simp [Act.eval]; done) | (simp [Act.eval, Act.put]; done)) (by rw [Tr.hvs_len, List.length_take]; omega) (HRt.out _ ((((Below.refl _ _).drew).alloc (Nat.le_refl _) _).alloc (by simp) _)) (Tr.hvs_one _) (by unfold maxLen; omega) (by omega) (by simp <;> omega) ?_; intro v1 w3 ho1 hg1 ha1 hn1; have HB3 := Lib.hid (((((Below.refl wz.heap.size wz).drew).alloc (Nat.le_refl _) (.cells #[] 67)).alloc (by simp) (.cells #[.string ⟨hn.toArray⟩, .bool hb] 67)).grown hg1 (by simp <;> omega) (fun g hg => by simp [Value.ownBlock] at hg; omega)); have ws3 := HB3.out.size; have hx3 : w.heap.size < w3.heap.size := Nat.lt_of_lt_of_le hzl ws3; have y0 := (HB3.out.cell (p := ⟨w.heap.size, 0, none⟩) hzl).trans z0; have y1 := (HB3.out.cell (p := ⟨w.heap.size, 1, none⟩) hzl).trans z1; have hrs := Lib.hid (Tr.rd_over (X := (wz.drew.alloc (.cells #[] 67)).alloc (.cells #[.string ⟨hn.toArray⟩, .bool hb] 67)) (row := some wz.heap.size) hg1 (Rd.fresh (wz.drew.alloc (.cells #[] 67)) [.string ⟨hn.toArray⟩, .bool hb] 67 (wz.heap.size + 1) (by simp)) (fun i hi e => by have e2 := Option.some.inj e; have hi2 : i = wz.heap.size + 1 := hi; omega)); have HO1 := Lib.hid ho1; clear ho1 hg1 ha1 hn1) | (refine step_app _ rfl (.tmp 58) (.tmp 61) 36 rfl wz.heap.size 67 i0 (.agg #[.string ⟨#[]⟩, .bool false]) 2 24 Tryz.underlying36 HI.out HZ.out.1 HZ.out.2.1 HZ.out.2.2 rfl (by decide) (.slice (some ⟨wz.heap.size + 1, 0, none⟩) 0 0) 0 [] (by first | (simp [Act.eval]; done) | (simp [Act.eval, Act.put]; done)) HO3.out (fun _ => True) (A) k c (Tr.hvs (L.take k)) (by first | (simp [Act.eval]; done) | (simp [Act.eval, Act.put]; done)) (by rw [Tr.hvs_len, List.length_take]; omega) (HRt.out _ ((((Below.refl _ _).drew).alloc (Nat.le_refl _) _).alloc (by simp) _)) (Tr.hvs_one _) (by unfold maxLen; omega) (by omega) (by simp <;> omega) ?_; intro v1 w3 ho1 hg1 ha1 hn1; have HB3 := Lib.hid (((((Below.refl wz.heap.size wz).drew).alloc (Nat.le_refl _) (.cells #[.string ⟨hn.toArray⟩, .bool hb] 67)).alloc (by simp) (.cells #[] 67)).grown hg1 (by simp <;> omega) (fun g hg => by simp [Value.ownBlock] at hg; omega)); have ws3 := HB3.out.size; have hx3 : w.heap.size < w3.heap.size := Nat.lt_of_lt_of_le hzl ws3; have y0 := (HB3.out.cell (p := ⟨w.heap.size, 0, none⟩) hzl).trans z0; have y1 := (HB3.out.cell (p := ⟨w.heap.size, 1, none⟩) hzl).trans z1; have hrs := Lib.hid (Tr.rd_over (X := (wz.drew.alloc (.cells #[.string ⟨hn.toArray⟩, .bool hb] 67)).alloc (.cells #[] 67)) (row := some (wz.heap.size + 1)) hg1 ((Rd.fresh wz.drew [.string ⟨hn.toArray⟩, .bool hb] 67 wz.heap.size rfl).keep (by simp) (fun b hb _ => Below.heap_alloc _ _ b hb)) (fun i hi e => by have e2 := Option.some.inj e; have hi2 : i = wz.heap.size := hi; omega)); have HO1 := Lib.hid ho1; clear ho1 hg1 ha1 hn1) | (refine step_app _ rfl (.tmp 62) (.tmp 64) 36 rfl wz.heap.size 67 i0 (.agg #[.string ⟨#[]⟩, .bool false]) 2 24 Tryz.underlying36 HI.out HZ.out.1 HZ.out.2.1 HZ.out.2.2 rfl (by decide) v1 (0 + k) _ (by first | (simp [Act.eval]; done) | (simp [Act.eval, Act.put]; done)) (HO1.out.alloc (.cells #[.string ⟨hn.toArray⟩, .bool hb] 67)) (fun _ => True) (some ⟨w3.heap.size, 0, none⟩) 1 1 [.string ⟨hn.toArray⟩, .bool hb] (by first | (simp [Act.eval]; done) | (simp [Act.eval, Act.put]; done)) (by simp) ((Rd.fresh w3 [.string ⟨hn.toArray⟩, .bool hb] 67 _ rfl).mono (fun _ _ _ => trivial)) (by intro u hu; simp at hu; rcases hu with rfl | rfl <;> rfl) (by unfold maxLen; omega) (by omega) (by first | omega | (simp; omega)) ?_; intro v2 w4 ho2 hg2 ha2 hn2; have HB4 := Lib.hid ((HB3.out.alloc ws3 (.cells #[.string ⟨hn.toArray⟩, .bool hb] 67)).grown hg2 (by first | omega | (simp; omega)) (fun g hg => (HO1.out.lt g hg).1)); have ws4 := HB4.out.size; have HO2 := Lib.hid ho2; clear ho2 hg2 ha2 hn2) | (refine step_app _ rfl (.tmp 62) (.tmp 64) 36 rfl wz.heap.size 67 i0 (.agg #[.string ⟨#[]⟩, .bool false]) 2 24 Tryz.underlying36 HI.out HZ.out.1 HZ.out.2.1 HZ.out.2.2 rfl (by decide) v1 (0 + k) _ (by first | (simp [Act.eval]; done) | (simp [Act.eval, Act.put]; done)) HO1.out (fun _ => True) (some ⟨wz.heap.size + 1, 0, none⟩) 1 1 [.string ⟨hn.toArray⟩, .bool hb] (by first | (simp [Act.eval]; done) | (simp [Act.eval, Act.put]; done)) (by simp) hrs.out (by intro u hu; simp at hu; rcases hu with rfl | rfl <;> rfl) (by unfold maxLen; omega) (by omega) (by first | omega | (simp; omega)) ?_; intro v2 w4 ho2 hg2 ha2 hn2; have HB4 := Lib.hid ((HB3.out).grown hg2 (by first | omega | (simp; omega)) (fun g hg => (HO1.out.lt g hg).1)); have ws4 := HB4.out.size; have HO2 := Lib.hid ho2; clear ho2 hg2 ha2 hn2) | (refine step_app _ rfl (.tmp 62) (.tmp 64) 36 rfl wz.heap.size 67 i0 (.agg #[.string ⟨#[]⟩, .bool false]) 2 24 Tryz.underlying36 HI.out HZ.out.1 HZ.out.2.1 HZ.out.2.2 rfl (by decide) v1 (0 + k) _ (by first | (simp [Act.eval]; done) | (simp [Act.eval, Act.put]; done)) HO1.out (fun _ => True) (some ⟨wz.heap.size, 0, none⟩) 1 1 [.string ⟨hn.toArray⟩, .bool hb] (by first | (simp [Act.eval]; done) | (simp [Act.eval, Act.put]; done)) (by simp) hrs.out (by intro u hu; simp at hu; rcases hu with rfl | rfl <;> rfl) (by unfold maxLen; omega) (by omega) (by first | omega | (simp; omega)) ?_; intro v2 w4 ho2 hg2 ha2 hn2; have HB4 := Lib.hid ((HB3.out).grown hg2 (by first | omega | (simp; omega)) (fun g hg => (HO1.out.lt g hg).1)); have ws4 := HB4.out.size; have HO2 := Lib.hid ho2; clear ho2 hg2 ha2 hn2))
      all_goals
        go_wp2_with (at_builtin; refine wpList_app _ rfl (.tmp 66) (.tmp 69) 36 rfl wz.heap.size 67 i0 (.agg #[.string ⟨#[]⟩, .bool false]) 2 24 Tryz.underlying36 HI.out HZ.out.1 HZ.out.2.1 HZ.out.2.2 rfl (by decide) v2 (0 + k + 1) _ rfl HO2.out (fun _ => True) A9 (L.length - k) (c - k) (Tr.hvs (L.drop k)) (by simp [Act.eval]) (by rw [Tr.hvs_len, List.length_drop]) (HRd.out _ HB4.out) (Tr.hvs_one _) (by unfold maxLen; omega) (by omega) ws4 ?_; intro v3 w5 ho3 hg3 ha3 hn3; have HB5 := Lib.hid (HB4.out.grown hg3 ws4 (fun g hg => (HO2.out.lt g hg).1)); have HO3' := Lib.hid ho3; clear ho3 hg3 ha3 hn3)
        go_ret
        exact ⟨_, rfl, by rw [HRes.out]; exact Tr.lay_end (h := (hn, hb)) HO3'.out rfl hk rfl, HBw.out.trans (HB5.out.mono HBw.out.size)⟩
end Go.Proofs.YtfmbbhcjnidcbaaGreatDoor
