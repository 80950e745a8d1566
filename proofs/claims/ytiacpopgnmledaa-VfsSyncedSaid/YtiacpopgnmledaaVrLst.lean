/-
  CONTRACTS: the document's own files as an object: List. UNFINISHED: the inner loop's first way out (q < k) is proved whole, through regions 8 and 9; the second way out (q = k) and the outer loop's end are written but were not seen to build (130 s were not enough): NOTES.md.
-/
import Derived.Test.YtiacpopgnmledaaVrList
import Derived.Test.YtiacpopgnmledaaVrActs
import Derived.RegionTactic
namespace Go.Proofs.Ytiacpopgnmledaa
open Go.RowKit
open Me

theorem strinfo : (Try.prog.info? 9).map (fun i => (i.zero, i.size, i.bytes)) = some (some (.string ⟨#[]⟩), 1, 16) := by kernel_rfl
theorem owns_e1 (W : World) (base : Nat) (e : TypeId) (h : base ≤ W.heap.size) : (W.alloc (.cells #[] e)).ownsRow base e 1 (.slice (some ⟨W.heap.size, 0, none⟩) 0 0) 0 [] :=
  ⟨by simp, .inr ⟨W.heap.size, 0, #[], rfl, h, heap_alloc_new W _, Nat.le_refl _, Nat.zero_le _, rfl, by simp⟩⟩
theorem owns_e2 (W : World) (base : Nat) (e : TypeId) (o : Obj) (h : base ≤ W.heap.size) : ((W.alloc (.cells #[] e)).alloc o).ownsRow base e 1 (.slice (some ⟨W.heap.size, 0, none⟩) 0 0) 0 [] := (owns_e1 W base e h).alloc o
theorem rd_over {X w1 : World} {row : Option Nat} {G : Nat → Prop} {A : Option Addr} {xs : List Value} (hg : X.grownBy w1 row) (h : Rd X G A xs) (hG : ∀ i, G i → row ≠ some i) : Rd w1 (fun _ => True) A xs :=
  (h.keep hg.size (fun i hi hGi => hg.block i hi (fun e => hG i hGi e.symm))).mono (fun _ _ _ => trivial)
theorem rd_drop {w : World} {G : Nat → Prop} {A : Option Addr} {L : List (List UInt8)} {q k cc : Nat} (h : Rd w G A (byS L)) (hk : L.length = k) (hc : k ≤ cc) : Rd w G (if cc = q then A else Option.map (fun x => x.add q) A) (byS (L.drop q)) := by
  by_cases hq : L.length ≤ q
  · rw [List.drop_eq_nil_of_le hq]
    exact Rd.none_ _ _ _
  · rw [if_neg (by omega)]
    intro hn
    obtain ⟨ad, rfl, h2⟩ := h (by rintro e; apply hn; rw [← byS_drop, e]; simp)
    have := (Rd.sub (w := w) (G := G) (ad := ad) (xs := byS L) (fun _ => ⟨ad, rfl, h2⟩) q (L.length - q))
    rw [byS_drop, List.take_of_length_le (by rw [byS_len, List.length_drop]; omega)] at this
    exact this hn

theorem owns_less {w : World} {base base2 : Nat} {e : TypeId} {size n : Nat} {v : Value} {xs : List Value} (h : w.ownsRow base2 e size v n xs) (hb : base ≤ base2) : w.ownsRow base e size v n xs := by
  refine ⟨h.1, ?_⟩
  rcases h.2 with h0 | ⟨g, cap, cur, hv, h1, rest⟩
  · exact .inl h0
  · exact .inr ⟨g, cap, cur, hv, Nat.le_trans hb h1, rest⟩
theorem list_end {w3 : World} {base base2 k q : Nat} {e : TypeId} {v3 : Value} {L : List (List UInt8)} {nm : List UInt8} (h : w3.ownsRow base2 e 1 v3 (0 + q + 1 + (k - q)) (([] ++ byS (L.take q) ++ [.string ⟨nm.toArray⟩]) ++ byS (L.drop q))) (_ : L.length = k) (hq : q ≤ k) (hld : Vf.lead L nm = q) (hb : base ≤ base2) :
    w3.ownsRow base e 1 v3 (k + 1) (byS (Vf.ins L nm)) := by
  have h2 := owns_less h hb
  rw [show 0 + q + 1 + (k - q) = k + 1 by omega] at h2
  unfold Vf.ins
  rw [hld, byS_append, byS_append]
  simpa [byS] using h2

theorem slice_from (W : World) (A : Option Addr) (k c : Nat) (hc : k ≤ c) (A9 : Option Addr) (h9 : A9 = (if c = k then A else Option.map (fun x => x.add k) A)) :
    (Instr.slice 68 (.slice A k c) (some (.int .i64 (k : Int))) none none).run Try.prog W = .ok (.slice A9 0 (c - k)) W := by
  have h1 : ¬ (c : Int) < (k : Int) := by omega
  have h2 : ¬ c < k := by omega
  have h3 : (0 : Int) ≤ (k : Int) := by omega
  subst h9
  cases A <;> by_cases e : c = k <;> simp [go_sem, *]

set_option maxRecDepth 100000 in
set_option maxHeartbeats 1600000 in
theorem list_any {w : World} {G : Nat → Prop} {fs : Nat} {lr : Option Nat} {S : Vf.Sv} {nv wv lv : Value} {ys : List Value} (h : Vf.At w G fs lr S nv wv lv ys) (hl : S.now.length ≤ 1048576) :
    Calls Try.prog 31 #[.pointer (some ⟨fs, 0, none⟩)] w fun e w' => ∃ v, e = .returned v ∧ Ss w' (fun i => w.heap.size ≤ i) v (Vf.names S.now) ∧ Below w.heap.size w w' := by
  obtain ⟨c0, c1, c2, c3, hf⟩ := h.cells
  have hfl := h.fsLt
  have H := Lib.hid h
  obtain ⟨i0, hi0, hz0, hz1, hz2⟩ := info_parts strinfo
  have HI := Lib.hid hi0
  have HZ := Lib.hid (And.intro hz0 (And.intro hz1 hz2))
  clear hi0 hz0 hz1 hz2
  have hl' : (S.now.length : Int) ≤ 1048576 := by omega
  obtain ⟨A0, c00, xs0, hnv, _⟩ := h.now
  subst hnv
  clear h hf
  go_enter Try.func31, Try.ntmps31
  go_wp2_with fail
  go_loopw [3, 4] (fun m i wr => ∃ (k : Nat) (mv : Value), k ≤ S.now.length ∧ i = .int .i64 k ∧ mv = m ∧ Hid (wr.ownsRow w.heap.size 9 1 mv k (byS (Vf.names (S.now.take k)))) ∧ Below w.heap.size w wr) (fun _ i _ => S.now.length - (intOf i).toNat)
  case atStart => exact ⟨0, _, Nat.zero_le _, rfl, rfl, Lib.hid (World.ownsRow_nil _ _ _ _), Below.refl _ _⟩
  case round =>
    obtain ⟨k, mv, hk, rfl, rfl, hown, hbel⟩ := hrel
    have d1 := (hbel.cell (p := ⟨fs, 1, none⟩) hfl).trans c1
    have hws := hbel.size
    by_cases hlt : k < S.now.length
    · obtain ⟨rb, ro, c, A2, cc, he, hc, hcm, g0, g1, _, hrb, _⟩ := H.out.now.nth k hlt
      injection he with he1 he2 he3
      subst he1 he3
      have f0 := (hbel.cell (p := ⟨rb, ro + k * 2, none⟩) hrb).trans g0
      have HNT := Lib.hid (Vf.names_take S.now k hlt)
      have hnl := Vf.names_len_take S.now k hk
      obtain ⟨A, c2, rfl, hc2, hcm2, hrd⟩ : ∃ A c, mv = .slice A k c ∧ k ≤ c ∧ c ≤ maxLen ∧ Rd wr (fun i => w.heap.size ≤ i) A (byS (Vf.names (S.now.take k))) := by
        have := Ss.own (l := Vf.names (S.now.take k)) (by rw [hnl]; exact hown.out)
        rw [Ss, hnl] at this
        exact this
      have HRD := Lib.hid hrd
      unfold maxLen at hcm hcm2
      clear hrd g0 g1
      generalize S.now[k].name = nm at *
      generalize Vf.names (S.now.take k) = L at *
      obtain ⟨wo, rfl⟩ : ∃ wo, wo = wr := ⟨_, rfl⟩
      go_wp2_with fail
      go_loopw [5] (fun j wi => ∃ q : Nat, q ≤ k ∧ j = .int .i64 q ∧ Hid (∀ i (h : i < L.length), i < q → Vf.lt L[i] nm = true) ∧ Below wo.heap.size wo wi) (fun j _ => k - (intOf j).toNat)
      case atStart => exact ⟨0, Nat.zero_le _, rfl, Lib.hid (fun i _ h => absurd h (by omega)), Below.refl _ _⟩
      case round =>
        obtain ⟨q, hq, rfl, hall, hbi⟩ := hrel
        have d1' := (hbi.cell (p := ⟨fs, 1, none⟩) (by show fs < wo.heap.size; omega)).trans d1
        have f0' := (hbi.cell (p := ⟨rb, ro + k * 2, none⟩) (by show rb < wo.heap.size; omega)).trans f0
        by_cases hqk : q < k
        · obtain ⟨lb, lo, rfl, hlb, _, hx⟩ := HRD.out.lit q (by rw [byS_len]; omega)
          have s0 := (hbi.cell (p := ⟨lb, lo + q, none⟩) hlb).trans (hx q _ (byS_get L q (by omega)))
          clear hx
          cases hcmp : Vf.lt L[q] nm
          · have HC := Lib.hid hcmp
            have hcb : Op.bytesLess L[q] nm = false := hcmp
            clear hcmp
            go_wp2_with fail
            go_region
            all_goals
              have hqL : q ≤ L.length := by omega
              have HLD := Lib.hid (Vf.lead_at L nm q hqL hall.out (fun _ => HC.out))
              have HB0 := Lib.hid hbi
              have hbis := hbi.size
              have s0' : (0 : Int) ≤ (q : Int) := by omega
              have s1' : (q : Int) ≤ (c2 : Int) := by omega
              have s2' : q ≤ c2 := by omega
              have s3' : (q : Int) ≤ (k : Int) := by omega
              have HRT : Hid (∀ W', Below wo.heap.size wo W' → Rd W' (fun i => w.heap.size ≤ i) (some ⟨lb, lo, none⟩) (byS (L.take q))) := Lib.hid (fun W' hb => (by
                have h0 := HRD.out
                intro hn
                obtain ⟨ad, ea, hl, hg, hc⟩ := (h0.below hb) (by rintro e; apply hn; rw [← byS_take, e]; simp)
                refine ⟨ad, ea, hl, hg, fun j u hu => hc j u ?_⟩
                rw [← byS_take, List.getElem?_take] at hu
                split at hu
                · exact hu
                · cases hu))
              have hbX : ∀ o o' : Obj, Below wo.heap.size wo (wr.alloc o) ∧ Below wo.heap.size wo ((wr.alloc o).alloc o') := fun o o' => ⟨hbi.alloc hbis _, (hbi.alloc hbis _).alloc (by simp; omega) _⟩
              have HO1 : Hid ((wr.alloc (.cells #[] 9)).ownsRow wo.heap.size 9 1 (.slice (some ⟨wr.heap.size, 0, none⟩) 0 0) 0 []) := Lib.hid (owns_e1 wr _ _ (by omega))
              have HO2 : Hid (((wr.alloc (.cells #[] 9)).alloc (.cells #[.string ⟨nm.toArray⟩] 9)).ownsRow wo.heap.size 9 1 (.slice (some ⟨wr.heap.size, 0, none⟩) 0 0) 0 []) := Lib.hid (owns_e2 wr _ _ _ (by omega))
              have HO3 : Hid (((wr.alloc (.cells #[.string ⟨nm.toArray⟩] 9)).alloc (.cells #[] 9)).ownsRow wo.heap.size 9 1 (.slice (some ⟨wr.heap.size + 1, 0, none⟩) 0 0) 0 []) := Lib.hid (by have := owns_e1 (wr.alloc (.cells #[.string ⟨nm.toArray⟩] 9)) wo.heap.size 9 (by simp; omega); simpa using this)
              have HR1 : Hid (Rd (wr.alloc (.cells #[] 9)) (fun i => w.heap.size ≤ i) (some ⟨lb, lo, none⟩) (byS (L.take q))) := Lib.hid (HRT.out _ (hbX _ (.cells #[] 9)).1)
              have HR2 : Hid (Rd ((wr.alloc (.cells #[] 9)).alloc (.cells #[.string ⟨nm.toArray⟩] 9)) (fun i => w.heap.size ≤ i) (some ⟨lb, lo, none⟩) (byS (L.take q))) := Lib.hid (HRT.out _ (hbX _ _).2)
              have HR3 : Hid (Rd ((wr.alloc (.cells #[.string ⟨nm.toArray⟩] 9)).alloc (.cells #[] 9)) (fun i => w.heap.size ≤ i) (some ⟨lb, lo, none⟩) (byS (L.take q))) := Lib.hid (HRT.out _ (hbX _ _).2)
              have HS2 : Hid (Rd ((wr.alloc (.cells #[] 9)).alloc (.cells #[.string ⟨nm.toArray⟩] 9)) (fun b => b = wr.heap.size + 1) (some ⟨wr.heap.size + 1, 0, none⟩) [.string ⟨nm.toArray⟩]) := Lib.hid (Rd.fresh (wr.alloc (.cells #[] 9)) [.string ⟨nm.toArray⟩] 9 _ (by simp))
              have HS3 : Hid (Rd ((wr.alloc (.cells #[.string ⟨nm.toArray⟩] 9)).alloc (.cells #[] 9)) (fun b => b = wr.heap.size) (some ⟨wr.heap.size, 0, none⟩) [.string ⟨nm.toArray⟩]) := Lib.hid ((Rd.fresh wr [.string ⟨nm.toArray⟩] 9 _ rfl).keep (by simp) (fun b hb _ => Below.heap_alloc _ _ b hb))
              clear hbX
              have fsl : fs < wr.heap.size := by omega
              have rbl : rb < wr.heap.size := by omega
              have HY : Hid (∀ (o : Obj) (p : Addr), p.block < wr.heap.size → (wr.alloc o).cell? p = wr.cell? p) := Lib.hid (fun o p h => World.cell?_alloc_lt wr o p h)
              have HY2 : Hid (∀ (o o' : Obj) (p : Addr), p.block < wr.heap.size → ((wr.alloc o).alloc o').cell? p = wr.cell? p) := Lib.hid (fun o o' p h => (World.cell?_alloc_lt _ o' p (by simp; omega)).trans (World.cell?_alloc_lt wr o p h))
              go_wp2_with fail
              go_region_law (first | (refine step_app _ rfl (.tmp 37) (.tmp 40) 68 rfl wo.heap.size 9 i0 (.string ⟨#[]⟩) 1 16 Try.underlying68 HI.out HZ.out.1 HZ.out.2.1 HZ.out.2.2 rfl (by decide) (.slice (some ⟨wr.heap.size, 0, none⟩) 0 0) 0 [] (by first | (simp [Act.eval]; done) | (simp [Act.eval, Act.put]; done)) HO1.out (fun i => w.heap.size ≤ i) (some ⟨lb, lo, none⟩) q c2 (byS (L.take q)) (by first | (simp [Act.eval]; done) | (simp [Act.eval, Act.put]; done)) (by rw [byS_len, List.length_take]; omega) HR1.out (byS_one _) (by unfold maxLen; omega) (by omega) (by first | omega | (simp; omega)) ?_; intro v1 w1 hown1 hg1 hat1 hnil1; have ws1 : wo.heap.size ≤ w1.heap.size := Nat.le_trans (by simp; omega) hg1.size; have hbo1 : Below wo.heap.size wo w1 := ((hbi.alloc hbis (.cells #[] 9)).drew.drew).grown hg1 (by simp; omega) (fun g hg => by simp [Value.ownBlock] at hg; omega); have y1 : w1.cell? ⟨fs, 1, none⟩ = _ := (hg1.cell_far ⟨fs, 1, none⟩ (by show fs < _; simp; omega) (fun e => by simp [Value.ownBlock] at e; omega)).trans ((HY.out _ _ fsl).trans d1'); have y2 : w1.cell? ⟨rb, ro + k * 2, none⟩ = _ := (hg1.cell_far ⟨rb, ro + k * 2, none⟩ (by show rb < _; simp; omega) (fun e => by simp [Value.ownBlock] at e; omega)).trans ((HY.out _ _ rbl).trans f0')) | (refine step_app _ rfl (.tmp 37) (.tmp 40) 68 rfl wo.heap.size 9 i0 (.string ⟨#[]⟩) 1 16 Try.underlying68 HI.out HZ.out.1 HZ.out.2.1 HZ.out.2.2 rfl (by decide) (.slice (some ⟨wr.heap.size, 0, none⟩) 0 0) 0 [] (by first | (simp [Act.eval]; done) | (simp [Act.eval, Act.put]; done)) HO2.out (fun i => w.heap.size ≤ i) (some ⟨lb, lo, none⟩) q c2 (byS (L.take q)) (by first | (simp [Act.eval]; done) | (simp [Act.eval, Act.put]; done)) (by rw [byS_len, List.length_take]; omega) HR2.out (byS_one _) (by unfold maxLen; omega) (by omega) (by first | omega | (simp; omega)) ?_; intro v1 w1 hown1 hg1 hat1 hnil1; have ws1 : wo.heap.size ≤ w1.heap.size := Nat.le_trans (by simp; omega) hg1.size; have hbo1 : Below wo.heap.size wo w1 := (((hbi.alloc hbis (.cells #[] 9)).alloc (by simp; omega) (.cells #[.string ⟨nm.toArray⟩] 9)).drew.drew).grown hg1 (by simp; omega) (fun g hg => by simp [Value.ownBlock] at hg; omega); have y1 : w1.cell? ⟨fs, 1, none⟩ = _ := (hg1.cell_far ⟨fs, 1, none⟩ (by show fs < _; simp; omega) (fun e => by simp [Value.ownBlock] at e; omega)).trans ((HY2.out _ _ _ fsl).trans d1'); have y2 : w1.cell? ⟨rb, ro + k * 2, none⟩ = _ := (hg1.cell_far ⟨rb, ro + k * 2, none⟩ (by show rb < _; simp; omega) (fun e => by simp [Value.ownBlock] at e; omega)).trans ((HY2.out _ _ _ rbl).trans f0'); have hrs := Lib.hid (rd_over (X := (wr.alloc (.cells #[] 9)).alloc (.cells #[.string ⟨nm.toArray⟩] 9)) (row := some wr.heap.size) ⟨hg1.os, hg1.tape, hg1.output, hg1.size, hg1.block⟩ HS2.out (fun i hi e => by have e2 := Option.some.inj e; have hi2 : i = wr.heap.size + 1 := hi; omega))) | (refine step_app _ rfl (.tmp 37) (.tmp 40) 68 rfl wo.heap.size 9 i0 (.string ⟨#[]⟩) 1 16 Try.underlying68 HI.out HZ.out.1 HZ.out.2.1 HZ.out.2.2 rfl (by decide) (.slice (some ⟨wr.heap.size + 1, 0, none⟩) 0 0) 0 [] (by first | (simp [Act.eval]; done) | (simp [Act.eval, Act.put]; done)) HO3.out (fun i => w.heap.size ≤ i) (some ⟨lb, lo, none⟩) q c2 (byS (L.take q)) (by first | (simp [Act.eval]; done) | (simp [Act.eval, Act.put]; done)) (by rw [byS_len, List.length_take]; omega) HR3.out (byS_one _) (by unfold maxLen; omega) (by omega) (by first | omega | (simp; omega)) ?_; intro v1 w1 hown1 hg1 hat1 hnil1; have ws1 : wo.heap.size ≤ w1.heap.size := Nat.le_trans (by simp; omega) hg1.size; have hbo1 : Below wo.heap.size wo w1 := (((hbi.alloc hbis (.cells #[.string ⟨nm.toArray⟩] 9)).alloc (by simp; omega) (.cells #[] 9)).drew.drew).grown hg1 (by simp; omega) (fun g hg => by simp [Value.ownBlock] at hg; omega); have y1 : w1.cell? ⟨fs, 1, none⟩ = _ := (hg1.cell_far ⟨fs, 1, none⟩ (by show fs < _; simp; omega) (fun e => by simp [Value.ownBlock] at e; omega)).trans ((HY2.out _ _ _ fsl).trans d1'); have y2 : w1.cell? ⟨rb, ro + k * 2, none⟩ = _ := (hg1.cell_far ⟨rb, ro + k * 2, none⟩ (by show rb < _; simp; omega) (fun e => by simp [Value.ownBlock] at e; omega)).trans ((HY2.out _ _ _ rbl).trans f0'); have hrs := Lib.hid (rd_over (X := (wr.alloc (.cells #[.string ⟨nm.toArray⟩] 9)).alloc (.cells #[] 9)) (row := some (wr.heap.size + 1)) ⟨hg1.os, hg1.tape, hg1.output, hg1.size, hg1.block⟩ HS3.out (fun i hi e => by have e2 := Option.some.inj e; have hi2 : i = wr.heap.size := hi; omega))) | (refine step_app _ rfl (.tmp 41) (.tmp 50) 68 rfl wo.heap.size 9 i0 (.string ⟨#[]⟩) 1 16 Try.underlying68 HI.out HZ.out.1 HZ.out.2.1 HZ.out.2.2 rfl (by decide) v1 (0 + q) _ (by first | (simp [Act.eval]; done) | (simp [Act.eval, Act.put]; done)) (hown1.alloc _) (fun _ => True) (some ⟨w1.heap.size, 0, none⟩) 1 1 [.string ⟨nm.toArray⟩] (by first | (simp [Act.eval]; done) | (simp [Act.eval, Act.put]; done)) (by simp) ((Rd.fresh w1 [.string ⟨nm.toArray⟩] 9 _ rfl).mono (fun _ _ _ => trivial)) (by intro u hu; simp at hu; subst hu; rfl) (by unfold maxLen; omega) (by omega) (by first | omega | (simp; omega)) ?_; intro v2 w2 hown2 hg2 hat2 hnil2; have hbo2 : Below wo.heap.size wo w2 := (by first | exact hbo1.grown hg2 ws1 (fun g hg => (hown1.lt g hg).1) | exact (hbo1.alloc ws1 _).grown hg2 (by simp; omega) (fun g hg => (hown1.lt g hg).1)); have ws2 := hbo2.size) | (refine step_app _ rfl (.tmp 41) (.tmp 50) 68 rfl wo.heap.size 9 i0 (.string ⟨#[]⟩) 1 16 Try.underlying68 HI.out HZ.out.1 HZ.out.2.1 HZ.out.2.2 rfl (by decide) v1 (0 + q) _ (by first | (simp [Act.eval]; done) | (simp [Act.eval, Act.put]; done)) hown1 (fun _ => True) (some ⟨wr.heap.size + 1, 0, none⟩) 1 1 [.string ⟨nm.toArray⟩] (by first | (simp [Act.eval]; done) | (simp [Act.eval, Act.put]; done)) (by simp) hrs.out (by intro u hu; simp at hu; subst hu; rfl) (by unfold maxLen; omega) (by omega) (by first | omega | (simp; omega)) ?_; intro v2 w2 hown2 hg2 hat2 hnil2; have hbo2 : Below wo.heap.size wo w2 := (by first | exact hbo1.grown hg2 ws1 (fun g hg => (hown1.lt g hg).1) | exact (hbo1.alloc ws1 _).grown hg2 (by simp; omega) (fun g hg => (hown1.lt g hg).1)); have ws2 := hbo2.size) | (refine step_app _ rfl (.tmp 41) (.tmp 50) 68 rfl wo.heap.size 9 i0 (.string ⟨#[]⟩) 1 16 Try.underlying68 HI.out HZ.out.1 HZ.out.2.1 HZ.out.2.2 rfl (by decide) v1 (0 + q) _ (by first | (simp [Act.eval]; done) | (simp [Act.eval, Act.put]; done)) hown1 (fun _ => True) (some ⟨wr.heap.size, 0, none⟩) 1 1 [.string ⟨nm.toArray⟩] (by first | (simp [Act.eval]; done) | (simp [Act.eval, Act.put]; done)) (by simp) hrs.out (by intro u hu; simp at hu; subst hu; rfl) (by unfold maxLen; omega) (by omega) (by first | omega | (simp; omega)) ?_; intro v2 w2 hown2 hg2 hat2 hnil2; have hbo2 : Below wo.heap.size wo w2 := (by first | exact hbo1.grown hg2 ws1 (fun g hg => (hown1.lt g hg).1) | exact (hbo1.alloc ws1 _).grown hg2 (by simp; omega) (fun g hg => (hown1.lt g hg).1)); have ws2 := hbo2.size))
              all_goals
                have HRD3 : Hid (Rd w2 (fun i => w.heap.size ≤ i) (some ⟨lb, lo + q, none⟩) (byS (L.drop q))) := Lib.hid (by
                  have hd := rd_drop (q := q) (HRD.out.below hbo2) hnl hc2
                  rw [if_neg (by omega), Option.map_some, Addr.add_lit] at hd
                  exact hd)
                go_wp2_with (at_builtin; refine wpList_app _ rfl (.tmp 52) (.tmp 55) 68 rfl wo.heap.size 9 i0 (.string ⟨#[]⟩) 1 16 Try.underlying68 HI.out HZ.out.1 HZ.out.2.1 HZ.out.2.2 rfl (by decide) v2 (0 + q + 1) _ rfl hown2 (fun i => w.heap.size ≤ i) (some ⟨lb, lo + q, none⟩) (k - q) (c2 - q) (byS (L.drop q)) (by simp [Act.eval]) (by rw [byS_len, List.length_drop]; omega) HRD3.out (byS_one _) (by unfold maxLen; omega) (by omega) ws2 ?_; intro v3 w3 hown3 hg3 hat3 hnil3)
                go_roundw
                case rel =>
                  refine ⟨k + 1, v3, by omega, by go_num, rfl, Lib.hid ?_, hbel.trans ((hbo2.grown hg3 ws2 (fun g hg => (hown2.lt g hg).1)).mono hws)⟩
                  rw [HNT.out]
                  exact list_end hown3 hnl hq HLD.out hws
                case measure => simp [intOf]; omega
          · have HC := Lib.hid hcmp
            have hcb : Op.bytesLess L[q] nm = true := hcmp
            clear hcmp
            go_wp2_with fail
            go_region
            all_goals
              go_wp2_with fail
              go_roundw
              case rel =>
                refine ⟨q + 1, by omega, by go_num, Lib.hid (fun i h1 hiq => ?_), hbi.drew⟩
                by_cases e : i = q
                · subst e; exact HC.out
                · exact hall.out i h1 (by omega)
              case measure => simp [intOf]; omega
        · have hqe : q = k := by omega
          go_wp2_with fail
          go_region
          all_goals
            have hqL : q ≤ L.length := by omega
            have HLD := Lib.hid (Vf.lead_at L nm q hqL hall.out (fun h => absurd h (by omega)))
            have HB0 := Lib.hid hbi
            have hbis := hbi.size
            have s0' : (0 : Int) ≤ (q : Int) := by omega
            have s1' : (q : Int) ≤ (c2 : Int) := by omega
            have s2' : q ≤ c2 := by omega
            have s3' : (q : Int) ≤ (k : Int) := by omega
            have HRT : Hid (∀ W', Below wo.heap.size wo W' → Rd W' (fun i => w.heap.size ≤ i) A (byS (L.take q))) := Lib.hid (fun W' hb => (by
              have h0 := HRD.out
              intro hn
              obtain ⟨ad, ea, hl, hg, hc⟩ := (h0.below hb) (by rintro e; apply hn; rw [← byS_take, e]; simp)
              refine ⟨ad, ea, hl, hg, fun j u hu => hc j u ?_⟩
              rw [← byS_take, List.getElem?_take] at hu
              split at hu
              · exact hu
              · cases hu))
            have hbX : ∀ o o' : Obj, Below wo.heap.size wo (wr.alloc o) ∧ Below wo.heap.size wo ((wr.alloc o).alloc o') := fun o o' => ⟨hbi.alloc hbis _, (hbi.alloc hbis _).alloc (by simp; omega) _⟩
            have HO1 : Hid ((wr.alloc (.cells #[] 9)).ownsRow wo.heap.size 9 1 (.slice (some ⟨wr.heap.size, 0, none⟩) 0 0) 0 []) := Lib.hid (owns_e1 wr _ _ (by omega))
            have HO2 : Hid (((wr.alloc (.cells #[] 9)).alloc (.cells #[.string ⟨nm.toArray⟩] 9)).ownsRow wo.heap.size 9 1 (.slice (some ⟨wr.heap.size, 0, none⟩) 0 0) 0 []) := Lib.hid (owns_e2 wr _ _ _ (by omega))
            have HO3 : Hid (((wr.alloc (.cells #[.string ⟨nm.toArray⟩] 9)).alloc (.cells #[] 9)).ownsRow wo.heap.size 9 1 (.slice (some ⟨wr.heap.size + 1, 0, none⟩) 0 0) 0 []) := Lib.hid (by have := owns_e1 (wr.alloc (.cells #[.string ⟨nm.toArray⟩] 9)) wo.heap.size 9 (by simp; omega); simpa using this)
            have HR1 : Hid (Rd (wr.alloc (.cells #[] 9)) (fun i => w.heap.size ≤ i) A (byS (L.take q))) := Lib.hid (HRT.out _ (hbX _ (.cells #[] 9)).1)
            have HR2 : Hid (Rd ((wr.alloc (.cells #[] 9)).alloc (.cells #[.string ⟨nm.toArray⟩] 9)) (fun i => w.heap.size ≤ i) A (byS (L.take q))) := Lib.hid (HRT.out _ (hbX _ _).2)
            have HR3 : Hid (Rd ((wr.alloc (.cells #[.string ⟨nm.toArray⟩] 9)).alloc (.cells #[] 9)) (fun i => w.heap.size ≤ i) A (byS (L.take q))) := Lib.hid (HRT.out _ (hbX _ _).2)
            have HS2 : Hid (Rd ((wr.alloc (.cells #[] 9)).alloc (.cells #[.string ⟨nm.toArray⟩] 9)) (fun b => b = wr.heap.size + 1) (some ⟨wr.heap.size + 1, 0, none⟩) [.string ⟨nm.toArray⟩]) := Lib.hid (Rd.fresh (wr.alloc (.cells #[] 9)) [.string ⟨nm.toArray⟩] 9 _ (by simp))
            have HS3 : Hid (Rd ((wr.alloc (.cells #[.string ⟨nm.toArray⟩] 9)).alloc (.cells #[] 9)) (fun b => b = wr.heap.size) (some ⟨wr.heap.size, 0, none⟩) [.string ⟨nm.toArray⟩]) := Lib.hid ((Rd.fresh wr [.string ⟨nm.toArray⟩] 9 _ rfl).keep (by simp) (fun b hb _ => Below.heap_alloc _ _ b hb))
            clear hbX
            have fsl : fs < wr.heap.size := by omega
            have rbl : rb < wr.heap.size := by omega
            have HY : Hid (∀ (o : Obj) (p : Addr), p.block < wr.heap.size → (wr.alloc o).cell? p = wr.cell? p) := Lib.hid (fun o p h => World.cell?_alloc_lt wr o p h)
            have HY2 : Hid (∀ (o o' : Obj) (p : Addr), p.block < wr.heap.size → ((wr.alloc o).alloc o').cell? p = wr.cell? p) := Lib.hid (fun o o' p h => (World.cell?_alloc_lt _ o' p (by simp; omega)).trans (World.cell?_alloc_lt wr o p h))
            go_wp2_with fail
            go_region_law (first | (refine step_app _ rfl (.tmp 37) (.tmp 40) 68 rfl wo.heap.size 9 i0 (.string ⟨#[]⟩) 1 16 Try.underlying68 HI.out HZ.out.1 HZ.out.2.1 HZ.out.2.2 rfl (by decide) (.slice (some ⟨wr.heap.size, 0, none⟩) 0 0) 0 [] (by first | (simp [Act.eval]; done) | (simp [Act.eval]; omega) | (simp [Act.eval, Act.put]; done) | (simp [Act.eval, Act.put]; omega)) HO1.out (fun i => w.heap.size ≤ i) A q c2 (byS (L.take q)) (by first | (simp [Act.eval]; done) | (simp [Act.eval]; omega) | (simp [Act.eval, Act.put]; done) | (simp [Act.eval, Act.put]; omega)) (by rw [byS_len, List.length_take]; omega) HR1.out (byS_one _) (by unfold maxLen; omega) (by omega) (by first | omega | (simp; omega)) ?_; intro v1 w1 hown1 hg1 hat1 hnil1; have ws1 : wo.heap.size ≤ w1.heap.size := Nat.le_trans (by simp; omega) hg1.size; have hbo1 : Below wo.heap.size wo w1 := ((hbi.alloc hbis (.cells #[] 9)).drew.drew).grown hg1 (by simp; omega) (fun g hg => by simp [Value.ownBlock] at hg; omega); have y1 : w1.cell? ⟨fs, 1, none⟩ = _ := (hg1.cell_far ⟨fs, 1, none⟩ (by show fs < _; simp; omega) (fun e => by simp [Value.ownBlock] at e; omega)).trans ((HY.out _ _ fsl).trans d1'); have y2 : w1.cell? ⟨rb, ro + k * 2, none⟩ = _ := (hg1.cell_far ⟨rb, ro + k * 2, none⟩ (by show rb < _; simp; omega) (fun e => by simp [Value.ownBlock] at e; omega)).trans ((HY.out _ _ rbl).trans f0')) | (refine step_app _ rfl (.tmp 37) (.tmp 40) 68 rfl wo.heap.size 9 i0 (.string ⟨#[]⟩) 1 16 Try.underlying68 HI.out HZ.out.1 HZ.out.2.1 HZ.out.2.2 rfl (by decide) (.slice (some ⟨wr.heap.size, 0, none⟩) 0 0) 0 [] (by first | (simp [Act.eval]; done) | (simp [Act.eval]; omega) | (simp [Act.eval, Act.put]; done) | (simp [Act.eval, Act.put]; omega)) HO2.out (fun i => w.heap.size ≤ i) A q c2 (byS (L.take q)) (by first | (simp [Act.eval]; done) | (simp [Act.eval]; omega) | (simp [Act.eval, Act.put]; done) | (simp [Act.eval, Act.put]; omega)) (by rw [byS_len, List.length_take]; omega) HR2.out (byS_one _) (by unfold maxLen; omega) (by omega) (by first | omega | (simp; omega)) ?_; intro v1 w1 hown1 hg1 hat1 hnil1; have ws1 : wo.heap.size ≤ w1.heap.size := Nat.le_trans (by simp; omega) hg1.size; have hbo1 : Below wo.heap.size wo w1 := (((hbi.alloc hbis (.cells #[] 9)).alloc (by simp; omega) (.cells #[.string ⟨nm.toArray⟩] 9)).drew.drew).grown hg1 (by simp; omega) (fun g hg => by simp [Value.ownBlock] at hg; omega); have y1 : w1.cell? ⟨fs, 1, none⟩ = _ := (hg1.cell_far ⟨fs, 1, none⟩ (by show fs < _; simp; omega) (fun e => by simp [Value.ownBlock] at e; omega)).trans ((HY2.out _ _ _ fsl).trans d1'); have y2 : w1.cell? ⟨rb, ro + k * 2, none⟩ = _ := (hg1.cell_far ⟨rb, ro + k * 2, none⟩ (by show rb < _; simp; omega) (fun e => by simp [Value.ownBlock] at e; omega)).trans ((HY2.out _ _ _ rbl).trans f0'); have hrs := Lib.hid (rd_over (X := (wr.alloc (.cells #[] 9)).alloc (.cells #[.string ⟨nm.toArray⟩] 9)) (row := some wr.heap.size) ⟨hg1.os, hg1.tape, hg1.output, hg1.size, hg1.block⟩ HS2.out (fun i hi e => by have e2 := Option.some.inj e; have hi2 : i = wr.heap.size + 1 := hi; omega))) | (refine step_app _ rfl (.tmp 37) (.tmp 40) 68 rfl wo.heap.size 9 i0 (.string ⟨#[]⟩) 1 16 Try.underlying68 HI.out HZ.out.1 HZ.out.2.1 HZ.out.2.2 rfl (by decide) (.slice (some ⟨wr.heap.size + 1, 0, none⟩) 0 0) 0 [] (by first | (simp [Act.eval]; done) | (simp [Act.eval]; omega) | (simp [Act.eval, Act.put]; done) | (simp [Act.eval, Act.put]; omega)) HO3.out (fun i => w.heap.size ≤ i) A q c2 (byS (L.take q)) (by first | (simp [Act.eval]; done) | (simp [Act.eval]; omega) | (simp [Act.eval, Act.put]; done) | (simp [Act.eval, Act.put]; omega)) (by rw [byS_len, List.length_take]; omega) HR3.out (byS_one _) (by unfold maxLen; omega) (by omega) (by first | omega | (simp; omega)) ?_; intro v1 w1 hown1 hg1 hat1 hnil1; have ws1 : wo.heap.size ≤ w1.heap.size := Nat.le_trans (by simp; omega) hg1.size; have hbo1 : Below wo.heap.size wo w1 := (((hbi.alloc hbis (.cells #[.string ⟨nm.toArray⟩] 9)).alloc (by simp; omega) (.cells #[] 9)).drew.drew).grown hg1 (by simp; omega) (fun g hg => by simp [Value.ownBlock] at hg; omega); have y1 : w1.cell? ⟨fs, 1, none⟩ = _ := (hg1.cell_far ⟨fs, 1, none⟩ (by show fs < _; simp; omega) (fun e => by simp [Value.ownBlock] at e; omega)).trans ((HY2.out _ _ _ fsl).trans d1'); have y2 : w1.cell? ⟨rb, ro + k * 2, none⟩ = _ := (hg1.cell_far ⟨rb, ro + k * 2, none⟩ (by show rb < _; simp; omega) (fun e => by simp [Value.ownBlock] at e; omega)).trans ((HY2.out _ _ _ rbl).trans f0'); have hrs := Lib.hid (rd_over (X := (wr.alloc (.cells #[.string ⟨nm.toArray⟩] 9)).alloc (.cells #[] 9)) (row := some (wr.heap.size + 1)) ⟨hg1.os, hg1.tape, hg1.output, hg1.size, hg1.block⟩ HS3.out (fun i hi e => by have e2 := Option.some.inj e; have hi2 : i = wr.heap.size := hi; omega))) | (refine step_app _ rfl (.tmp 41) (.tmp 50) 68 rfl wo.heap.size 9 i0 (.string ⟨#[]⟩) 1 16 Try.underlying68 HI.out HZ.out.1 HZ.out.2.1 HZ.out.2.2 rfl (by decide) v1 (0 + q) _ (by first | (simp [Act.eval]; done) | (simp [Act.eval]; omega) | (simp [Act.eval, Act.put]; done) | (simp [Act.eval, Act.put]; omega)) (hown1.alloc _) (fun _ => True) (some ⟨w1.heap.size, 0, none⟩) 1 1 [.string ⟨nm.toArray⟩] (by first | (simp [Act.eval]; done) | (simp [Act.eval]; omega) | (simp [Act.eval, Act.put]; done) | (simp [Act.eval, Act.put]; omega)) (by simp) ((Rd.fresh w1 [.string ⟨nm.toArray⟩] 9 _ rfl).mono (fun _ _ _ => trivial)) (by intro u hu; simp at hu; subst hu; rfl) (by unfold maxLen; omega) (by omega) (by first | omega | (simp; omega)) ?_; intro v2 w2 hown2 hg2 hat2 hnil2; have hbo2 : Below wo.heap.size wo w2 := (by first | exact hbo1.grown hg2 ws1 (fun g hg => (hown1.lt g hg).1) | exact (hbo1.alloc ws1 _).grown hg2 (by simp; omega) (fun g hg => (hown1.lt g hg).1)); have ws2 := hbo2.size) | (refine step_app _ rfl (.tmp 41) (.tmp 50) 68 rfl wo.heap.size 9 i0 (.string ⟨#[]⟩) 1 16 Try.underlying68 HI.out HZ.out.1 HZ.out.2.1 HZ.out.2.2 rfl (by decide) v1 (0 + q) _ (by first | (simp [Act.eval]; done) | (simp [Act.eval]; omega) | (simp [Act.eval, Act.put]; done) | (simp [Act.eval, Act.put]; omega)) hown1 (fun _ => True) (some ⟨wr.heap.size + 1, 0, none⟩) 1 1 [.string ⟨nm.toArray⟩] (by first | (simp [Act.eval]; done) | (simp [Act.eval]; omega) | (simp [Act.eval, Act.put]; done) | (simp [Act.eval, Act.put]; omega)) (by simp) hrs.out (by intro u hu; simp at hu; subst hu; rfl) (by unfold maxLen; omega) (by omega) (by first | omega | (simp; omega)) ?_; intro v2 w2 hown2 hg2 hat2 hnil2; have hbo2 : Below wo.heap.size wo w2 := (by first | exact hbo1.grown hg2 ws1 (fun g hg => (hown1.lt g hg).1) | exact (hbo1.alloc ws1 _).grown hg2 (by simp; omega) (fun g hg => (hown1.lt g hg).1)); have ws2 := hbo2.size) | (refine step_app _ rfl (.tmp 41) (.tmp 50) 68 rfl wo.heap.size 9 i0 (.string ⟨#[]⟩) 1 16 Try.underlying68 HI.out HZ.out.1 HZ.out.2.1 HZ.out.2.2 rfl (by decide) v1 (0 + q) _ (by first | (simp [Act.eval]; done) | (simp [Act.eval]; omega) | (simp [Act.eval, Act.put]; done) | (simp [Act.eval, Act.put]; omega)) hown1 (fun _ => True) (some ⟨wr.heap.size, 0, none⟩) 1 1 [.string ⟨nm.toArray⟩] (by first | (simp [Act.eval]; done) | (simp [Act.eval]; omega) | (simp [Act.eval, Act.put]; done) | (simp [Act.eval, Act.put]; omega)) (by simp) hrs.out (by intro u hu; simp at hu; subst hu; rfl) (by unfold maxLen; omega) (by omega) (by first | omega | (simp; omega)) ?_; intro v2 w2 hown2 hg2 hat2 hnil2; have hbo2 : Below wo.heap.size wo w2 := (by first | exact hbo1.grown hg2 ws1 (fun g hg => (hown1.lt g hg).1) | exact (hbo1.alloc ws1 _).grown hg2 (by simp; omega) (fun g hg => (hown1.lt g hg).1)); have ws2 := hbo2.size))
            all_goals
              obtain ⟨A9, hA9⟩ : ∃ A9, A9 = (if c2 = k then A else Option.map (fun x => x.add k) A) := ⟨_, rfl⟩
              have HRD3 : Hid (Rd w2 (fun i => w.heap.size ≤ i) A9 (byS (L.drop q))) := Lib.hid (by have := rd_drop (q := q) (HRD.out.below hbo2) hnl hc2; rw [hqe, ← hA9, ← hqe] at this; exact this)
              have hsf := fun W : World => slice_from W A k c2 hc2 A9 hA9
              clear hA9
              go_wp2_with (at_builtin; refine wpList_app _ rfl (.tmp 52) (.tmp 55) 68 rfl wo.heap.size 9 i0 (.string ⟨#[]⟩) 1 16 Try.underlying68 HI.out HZ.out.1 HZ.out.2.1 HZ.out.2.2 rfl (by decide) v2 (0 + q + 1) _ rfl hown2 (fun i => w.heap.size ≤ i) A9 (k - q) (c2 - q) (byS (L.drop q)) (by first | (simp [Act.eval, hqe]; done) | (simp [Act.eval, hqe]; omega) | (simp [Act.eval]; omega)) (by rw [byS_len, List.length_drop]; omega) HRD3.out (byS_one _) (by unfold maxLen; omega) (by omega) ws2 ?_; intro v3 w3 hown3 hg3 hat3 hnil3)
              go_roundw
              case rel =>
                refine ⟨k + 1, v3, by omega, by go_num, rfl, Lib.hid ?_, hbel.trans ((hbo2.grown hg3 ws2 (fun g hg => (hown2.lt g hg).1)).mono hws)⟩
                rw [HNT.out]
                exact list_end hown3 hnl hq HLD.out hws
              case measure => simp [intOf]; omega
    · obtain rfl : k = S.now.length := by omega
      rw [List.take_length] at hown
      have hnl := Vf.names_len_take S.now S.now.length (Nat.le_refl _)
      rw [List.take_length] at hnl
      have HN := Lib.hid hnl
      go_wp2_with fail
      go_ret
      exact ⟨mv, rfl, Ss.own (by rw [HN.out]; exact hown.out), hbel⟩

end Go.Proofs.Ytiacpopgnmledaa
