/-
  TrSearchW: CONTRACTS: package trie: search, the walk.
-/
import Derived.Test.YtfmbbhcjnidcbaaGreatDoorJ39

namespace Go.Proofs.YtfmbbhcjnidcbaaGreatDoor
open Go.RowKit
open Me

set_option maxRecDepth 100000 in
set_option maxHeartbeats 4000000 in
theorem search_at {base : Nat} {T0 : TypeId} {x0 : Value} {c c2 N : Nat} {F G : Tr.Ns} {q : Tr.Path} {n : Tr.Nd} (hn : F q = some n) (hc9 : c ≤ 1099511627776) (hc29 : c2 ≤ 1099511627776) (h2 : Tr.Two F G N) (hC : Hid (∀ k y, F (q ++ [k]) = some y → Tr.SeC base T0 x0 c F c2 G (q ++ [k]) y)) : Tr.SeC base T0 x0 c F c2 G q n := by
  intro w vl vp vx L X hTF hTG hfb hgb hbs hl hfs hp hx hXn hX hL5 hm hgl0
  obtain ⟨i0, hi0, hz0, hz1, hz2⟩ := info_parts strinfoN
  have HI := Lib.hid hi0
  have HZ := Lib.hid (And.intro hz0 (And.intro hz1 hz2))
  obtain ⟨j0, hj0, hy0, hy1, hy2⟩ := info_parts Tr.findinfo
  have HJ := Lib.hid hj0
  have HY := Lib.hid (And.intro hy0 (And.intro hy1 hy2))
  obtain ⟨xA, xc, rfl⟩ := Tr.row_form hx
  have hXd : ∀ x ∈ X, x.length = q.length ∧ G x ≠ none := fun x hx => ⟨Tr.mtch_len ((hX x).1 hx).2, ((hX x).1 hx).1⟩
  have hX9 : X.length ≤ N := h2.thin q.length X hXn hXd
  have hN9 := h2.n9
  have HWi := Lib.hid (wildOf_any hTG X xA xc ((Rd.own hx).mono fun _ _ _ => trivial) hXn hXd h2.thin (by omega) hm)
  have HLi : Hid (∀ W C B cap2, Below w.heap.size w W → Calls Tryz.prog 46 #[.pointer (some ⟨n.b, 0, none⟩), .slice xA X.length xc, .slice B C.length cap2] W fun e w' => ∃ mb m, e = .returned (.map mb) ∧ Tr.Mp w' mb c m ∧ Tr.Lik F G q X (fun _ => C ≠ []) m ∧ Below W.heap.size W w') := Lib.hid fun W C B cap2 hW =>
    Tr.likely_any (hTF.below hW) hc9 hn (hTG.below hW) X xA B xc cap2 (((Rd.own hx).mono fun _ _ _ => trivial).below hW) (fun x h => (hXd x h).2) (by omega) C
  have HMa : Hid (∀ W C B cap2 k, Tr.Tree W 55 (.bool false) c2 G → Tr.OwnP base W (.slice xA X.length xc) G X → Tr.OwnC base W (.slice B C.length cap2) G C → Tr.Wild G X C → k.length ≤ 1048576 → Mx W → Calls Tryz.prog 47 #[.slice xA X.length xc, .slice B C.length cap2, .string ⟨k.toArray⟩] W fun e w' => ∃ v, e = .returned v ∧ Tr.OwnP W.heap.size w' v G (Tr.mex G k X ++ Tr.mwi k C) ∧ Below W.heap.size W w') := Lib.hid fun W C B cap2 k hT hoX hoC hWd hk hmW =>
    matching_any hT X xA xc ((Rd.own hoX).mono fun _ _ _ => trivial) (fun x h => (hXd x h).2) (by omega) C (fun x a h => ((hWd.mem x a).1 h).2.1) B cap2 ((Rd.own hoC).mono fun _ _ _ => trivial) (Nat.le_trans (Tr.pairs_le (d := q.length) h2.thin hWd.nodup fun x a h => ⟨(hXd x ((hWd.mem x a).1 h).1).1, ((hWd.mem x a).1 h).2.1⟩) (by omega)) k hk hmW
  have HM : Hid (∀ W, Kp (fun i => vl.ownBlock = some i ∨ vp.ownBlock = some i) w W → Mx W) := Lib.hid fun W h => by
    obtain ⟨z, hz⟩ := id hm
    refine ⟨z, (h.cell (p := ⟨0, 0, none⟩) (by show 0 < _; omega) (fun ho => ?_)).trans hz⟩
    rcases ho with ho | ho
    · have h9 := (World.ownsRow.lt hl _ ho).1
      have h10 : base ≤ 0 := h9
      omega
    · have h9 := (Tr.own_at hp ho).1
      have h10 : base ≤ 0 := h9
      omega
  have H2 := Lib.hid h2
  have HX := Lib.hid hX
  have HXn := Lib.hid hXn
  have HHN := Lib.hid hn
  have HP := Lib.hid hp
  have hq9 : ∀ k, F (q ++ [k]) ≠ none → q.length ≤ 1000 := fun k h => (h2.ok q k h).2.2
  have HSW0 : Hid (∀ W B C cap2, Below w.heap.size w W → Tr.OwnC w.heap.size W (.slice B C.length cap2) G C → Tr.SW w base T0 x0 c F c2 G vl vp (.slice xA X.length xc) (.slice B C.length cap2) X C W vl L ∧ OwnS base W vp q) := Lib.hid fun W B C cap2 hW hC => ⟨{ tf := hTF.below hW, tg := hTG.below hW, fb := hfb, gb := hgb, sz := hbs, kp := Kp.of_below hW, l := Tr.owns_below hl hW rfl, fs := fun f hf => ⟨(hfs f hf).1.below hW, (hfs f hf).2⟩, x := hx.below hW, k := ⟨hC.1, hC.2.imp id fun ⟨g, cap, cur, e1, e2, e3⟩ => ⟨g, cap, cur, e1, by omega, e3⟩⟩, lat := fun g hg => .inl hg, pat := fun g hg => ⟨(Tr.own_at hp hg).2, (Tr.own_at hp hg).1⟩ }, hp.below hW⟩
  have HQ9 := Lib.hid hq9
  clear hTF hTG hfb hgb hl hfs hp hx hXn hX hm hi0 hz0 hz1 hz2 hj0 hy0 hy1 hy2 hXd hn h2 hq9
  generalize n.b = nb at *
  go_enter Tryz.func27, Tryz.ntmps27
  go_wp2_with (first
    | (go_at_call 45; go_must (refine HWi.out.mono ?_; rintro e w1 ⟨vk, C, rfl, hoC, hwd, hb1⟩; obtain ⟨kA, kc, rfl⟩ := Tr.row_form hoC; have HLi1 := Lib.hid (HLi.out w1 C kA kc hb1)))
    | (go_at_call 46; go_must (refine HLi1.out.mono ?_; rintro e w2 ⟨mb, m, rfl, hmp, hlk, hb2⟩; have hB2 := hb1.trans (hb2.mono hb1.size); have hB2s := hB2.size; have hSW := HSW0.out w2 kA C kc hB2 (Tr.owns_below hoC hb2 rfl)))
    | (at_range; refine wpList_range_mp rfl _ rfl mb c m rfl hmp ?_; intro w3 cnt3 hrg3 hg3 hs3; have HRg3 := Lib.hid hrg3; have hB3 := (Below.refl w2.heap.size w2).grown hg3 (Nat.le_refl _) (fun j hj => by cases hj); have HSW3 := Lib.hid (hSW.1.below hB3); have HP3 := Lib.hid (hSW.2.below hB3); have HWd := Lib.hid hwd; have HLk := Lib.hid hlk; clear hrg3 hg3 hs3 hSW hwd hlk hmp hoC)
    | go_in)
  clear HWi HLi HLi1 HSW0
  have HRes0 : Hid (Tr.Res F G q L.length (fun n => (m n).isSome) []) := Lib.hid (Tr.Res.start fun x hx k hk => Tr.likely_goal H2.out.fc H2.out.gc HX.out HWd.out H2.out.dot HLk.out hx hk)
  have hr0 : w.heap.size ≤ w2.heap.size := hB2s
  have HSW4 : Hid (Tr.SW w base T0 x0 c F c2 G vl vp (.slice xA X.length xc) (.slice kA C.length kc) X C w3 vl (L ++ [])) := Lib.hid (by rw [List.append_nil]; exact HSW3.out)
  clear HSW3 hb1 hb2 hB2 hB2s
  generalize w2.heap.size = r at *
  go_frame
  go_loopw [1] (fun lv wr => ∃ (L2 : List Tr.Fd) (v : Value) (left : List UInt8 → Bool) (cnt : Nat), v = lv ∧ Hid (Tr.Rgs wr mb r c m left cnt) ∧ Hid (Tr.SW w base T0 x0 c F c2 G vl vp (.slice xA X.length xc) (.slice kA C.length kc) X C wr v (L ++ L2)) ∧ Hid (OwnS base wr vp q) ∧ Hid (Tr.Res F G q L.length left L2) ∧ (L ++ L2).length ≤ 513 ∧ Hid (∀ f ∈ L2, ∀ g, f.v.ownBlock = some g → w.heap.size ≤ g)) (fun _ wr => Tr.rgLeft wr mb r)
  case atStart => exact ⟨[], vl, _, _, rfl, HRg3, HSW4, HP3, HRes0, by rw [List.append_nil]; exact hL5, Lib.hid fun _ h => by cases h⟩
  case round =>
    obtain ⟨L2, v, left, cnt, rfl, HRg, HS, HPr, HRe, hL2, HF2⟩ := hrel
    clear HRg3 HSW4 HP3 HRes0
    obtain ⟨lA, lc, hlv⟩ := Tr.row_form HS.out.l
    obtain ⟨ln, hln⟩ : ∃ ln, ln = (L ++ L2).length := ⟨_, rfl⟩
    rw [← hln] at hlv hL2
    subst hlv
    have HLn := Lib.hid hln
    clear hln
    go_wp2_with (first
      | (at_next; refine wpList_next_mp rfl _ rfl mb r c m left cnt rfl HRg.out ?_ ?_)
      | go_in)
    · intro hl0
      have HFi := Lib.hid (HRe.out.done hl0)
      clear hl0
      go_wp2_with fail
      go_ret
      exact ⟨_, L2, rfl, HFi.out, HS.out.l, fun f hf => (HS.out.fs f hf).1, HF2.out, HPr.out, HS.out.kp, HS.out.lat, by rw [← HLn.out]; exact hL2⟩
    · intro k cb w4 cnt4 hla hma hrg4 hlt4 hg4 hs4 hen
      have HRg4 := Lib.hid hrg4
      have HLt : Hid (Tr.rgLeft w4 mb r < Tr.rgLeft wr mb r) := Lib.hid hlt4
      have HS4 := Lib.hid (HS.out.iter HRg.out hr0 hg4)
      have HP4 : Hid (OwnS base w4 vp q) := Lib.hid (HPr.out.kept hg4 (Or.inr (fun e => Tr.row_not_iter HPr.out HRg.out e)))
      obtain ⟨y, hy, hyb⟩ : ∃ y, F (q ++ [k]) = some y ∧ y.b = cb := by
        have h1 := HLk.out.sound k cb hma
        cases e : F (q ++ [k]) with
        | none => rw [e] at h1; cases h1
        | some y => rw [e] at h1; exact ⟨y, rfl, by simpa using h1⟩
      obtain ⟨hok, hk1, hq9⟩ := H2.out.ok q k (by rw [hy]; simp)
      have HRS : Hid (∀ L3 : List Tr.Fd, Tr.Hits F G L3 → (∀ f ∈ L3, q ++ [k] <+: f.q) → (512 < L.length + (L2 ++ L3).length ∨ ∀ x, Tr.GoalP F G x → q ++ [k] <+: x → x ∈ L3.map (·.q)) → Tr.Res F G q L.length (fun n => left n && !decide (n = k)) (L2 ++ L3)) := Lib.hid fun L3 h1 h2 h3 => HRe.out.step hla h1 h2 h3
      have HFull : Hid (512 < ln → Tr.Fin_ F G q L.length L2) := Lib.hid fun h => HRe.out.full (by rw [HLn.out, List.length_append] at h; exact h)
      clear hrg4 hlt4 hg4 hs4 hla hma HRe HS HPr
      by_cases h5 : 512 < ln
      · have h5' : (512 : Int) < (ln : Int) := by omega
        have HFi := Lib.hid (HFull.out h5)
        clear HRS HFull h5
        go_wp2_with fail
        go_ret
        exact ⟨_, L2, rfl, HFi.out, HS4.out.l, fun f hf => (HS4.out.fs f hf).1, HF2.out, HP4.out, HS4.out.kp, HS4.out.lat, by rw [← HLn.out]; exact hL2⟩
      · have h5' : ¬ (512 : Int) < (ln : Int) := by omega
        clear HFull
        have hMx4 := HM.out w4 HS4.out.kp
        have HMa4 := Lib.hid (HMa.out w4 C kA kc k HS4.out.tg HS4.out.x HS4.out.k HWd.out hk1 hMx4)
        have hMt := Tr.mt_of HXn.out HWd.out hok H2.out.dot
        have hYat := Tr.mt_at H2.out.gc HX.out hMt
        have hYn := hMt.nodup
        obtain ⟨Y, hY⟩ : ∃ Y, Y = Tr.mex G k X ++ Tr.mwi k C := ⟨_, rfl⟩
        rw [← hY] at HMa4 hYat hYn
        clear hY hMt
        have hpe : (q ++ [k]).length = q.length + 1 := by simp
        have hYlen : Y.length ≤ N := H2.out.thin (q.length + 1) Y hYn fun z hz => ⟨by rw [Tr.mtch_len ((hYat z).1 hz).2, hpe], ((hYat z).1 hz).1⟩
        by_cases hY0 : Y = []
        · subst hY0
          have HRn : Hid (Tr.Res F G q L.length (fun n => left n && !decide (n = k)) L2) := Lib.hid (by
            have h1 := HRS.out [] ⟨List.nodup_nil, fun _ h => (by cases h)⟩ (fun _ h => (by cases h)) (.inr fun x hx hp => absurd hp (Tr.no_goal H2.out.gc (fun z hz => by have := (hYat z).2 hz; cases this) hx))
            rwa [List.append_nil] at h1)
          clear HRS hYat hYn hYlen hy hMx4 hpe
          go_wp2_with (go_at_call 47; go_must (refine HMa4.out.mono ?_; rintro e w5 ⟨vm, rfl, hom, hb5⟩; obtain ⟨mA, mc, rfl⟩ := Tr.row_form hom; have HS5 := Lib.hid (HS4.out.below hb5); have HP5 := Lib.hid (HP4.out.below hb5); have HRg5 := Lib.hid (HRg4.out.below hb5 rfl); clear hom))
          have HM5 : Hid (Tr.rgLeft w5 mb r < Tr.rgLeft wr mb r) := Lib.hid (by rw [HRg4.out.same_left HRg5.out]; exact HLt.out)
          go_roundw
          case rel => exact ⟨L2, _, _, _, rfl, HRg5, HS5, HP5, HRn, by rw [← HLn.out]; exact hL2, HF2⟩
          case measure => exact HM5.out
        · have hYp : 0 < Y.length := List.length_pos_iff.2 hY0
          have hYz : ((Y.length : Int) == 0) = false := by rw [beq_eq_false_iff_ne]; omega
          have hlfI : (Y.any (Tr.isLeaf G)) = true ↔ ∃ z, Tr.At G (q ++ [k]) z ∧ Tr.isLeaf G z = true := by
            rw [List.any_eq_true]
            exact exists_congr fun z => and_congr_left fun _ => hYat z
          have HYd : Hid (∀ z ∈ Y, z ≠ [] ∧ G z ≠ none) := Lib.hid fun z hz => ⟨by rintro rfl; have := Tr.mtch_len ((hYat _).1 hz).2; rw [hpe] at this; simp at this, ((hYat z).1 hz).1⟩
          have HYat := Lib.hid hYat
          have HYn := Lib.hid hYn
          have hCk := hC.out k y hy
          unfold Tr.SeC at hCk
          rw [hyb] at hCk
          have HCk := Lib.hid hCk
          have hpl : (q ++ [k]).length ≤ 1048576 := by rw [hpe]; omega
          have hNs := H2.out.n9
          have HOne : Hid (∀ (v : Value) (L4 : List Tr.Fd), Tr.Fin_ F G (q ++ [k]) ((L ++ L2) ++ (if Y.any (Tr.isLeaf G) = true then [(⟨cb, v, q ++ [k]⟩ : Tr.Fd)] else [])).length L4 → Tr.Res F G q L.length (fun n => left n && !decide (n = k)) (L2 ++ ((if Y.any (Tr.isLeaf G) = true then [(⟨cb, v, q ++ [k]⟩ : Tr.Fd)] else []) ++ L4))) := Lib.hid fun v L4 h => by
            subst hyb
            have h1 := Tr.one_hits (n0 := (L ++ L2).length) (v := v) hy h hlfI (by rw [List.length_append])
            refine HRS.out _ h1.1 h1.2.1 (h1.2.2.imp_left fun h3 => ?_)
            rw [List.length_append] at h3 ⊢
            omega
          have HCo : Hid (∀ W b g cap, Tr.Tree W 55 (.bool false) c2 G → Tr.OwnP b W (.slice (some ⟨g, 0, none⟩) Y.length cap) G Y → Calls Tryz.prog 48 #[.slice (some ⟨g, 0, none⟩) Y.length cap, .func (.func 49) #[] #[]] W fun e w' => e = .returned (.bool (Y.any (Tr.isLeaf G))) ∧ Below W.heap.size W w') := Lib.hid fun W b g cap hT ho => Tr.anyLeaf hT Y HYd.out hYp (by omega) ho
          have h4w : w.heap.size ≤ w4.heap.size := HS4.out.kp.size
          have h4b : base ≤ w4.heap.size := HS4.out.szW
          have hLL : (L ++ L2).length ≤ 512 := by rw [← HLn.out]; omega
          clear hlfI hYat hYn hY0 hy hyb hCk HRS hMx4 H2
          cases hlf : Y.any (Tr.isLeaf G)
          · rw [hlf] at HOne HCo
            have HOne2 : Hid (∀ L4 : List Tr.Fd, Tr.Fin_ F G (q ++ [k]) (L ++ L2).length L4 → Tr.Res F G q L.length (fun n => left n && !decide (n = k)) (L2 ++ L4)) := Lib.hid fun L4 h => by simpa using HOne.out (.pointer none) L4 (by simpa using h)
            clear HOne hlf
            go_wp2_with first
              | (go_at_call 47; go_must (refine HMa4.out.mono ?_; rintro e w5 ⟨vm, rfl, hom, hb5⟩; obtain ⟨mg, mc, rfl⟩ := Tr.row_form1 hom hYp; have hb5s := hb5.size; have hb5a := hb5.alloc hb5s (.cells #[.string ⟨k.toArray⟩] 9)))
              | (at_builtin; refine wpList_push _ rfl _ _ 27 rfl base 9 i0 _ 1 16 Tryz.underlying27 HI.out HZ.out.1 HZ.out.2.1 HZ.out.2.2 rfl (by decide) vp q.length (byS q) rfl (HP4.out.below hb5a) ⟨w5.heap.size, 0, none⟩ 1 1 [.string ⟨k.toArray⟩] rfl rfl (cells_new w5 [.string ⟨k.toArray⟩] 9) (fun u hu => by rw [List.mem_singleton.1 hu]; rfl) (by decide) (by unfold maxLen; omega) (by omega) (by simp; omega) ?_; intro u w6 hA6; have hway := HS4.out.way hb5a hA6; have HS6 := Lib.hid hway.1; have HO6 := Lib.hid hway.2.1; have HU6 := Lib.hid hway.2.2.1; have HF6 := Lib.hid hway.2.2.2; have HRg6 := Lib.hid ((HRg4.out.below hb5a rfl).kp (Tr.app_kp hA6) (fun i hi => Tr.row_cs hA6.old hi)); have hma := Tr.owns_below hom ((Below.refl _ _).alloc (Nat.le_refl _) (.cells #[.string ⟨k.toArray⟩] 9)) rfl; have HM6 : Hid (Tr.OwnP w4.heap.size w6 (.slice (some ⟨mg, 0, none⟩) Y.length mc) G Y) := Lib.hid (owns_keep hma fun g hg => (Tr.app_kp hA6).block g (World.ownsRow.lt hma g hg).2 (fun ho => Tr.rows_ne hA6.old hma Tr.ne_str_br ho hg)); have HA6 := Lib.hid hA6; obtain ⟨ug, uc, rfl⟩ := Tr.row_form1 hA6.own (Nat.succ_pos _); clear hway hma hA6 hom)
              | (go_at_call 48; go_must (refine (HCo.out w6 _ _ _ HS6.out.tg HM6.out).mono ?_; rintro e w7 ⟨rfl, hb7⟩; have HS7 := Lib.hid (HS6.out.below hb7); have HO7 := Lib.hid (HO6.out.below hb7); have HRg7 := Lib.hid (HRg6.out.below hb7 rfl); have HM7 := Lib.hid (Tr.owns_base (Tr.owns_below HM6.out hb7 rfl) h4b); have H37 : Hid (∀ g, vp.ownBlock = some g → w7.heap[g]? = w6.heap[g]?) := Lib.hid (fun g hg => hb7.block g (Nat.lt_of_lt_of_le (HS6.out.pat g hg).1 HS6.out.kp.size)); have HC7 := Lib.hid (HCk.out w7 (.slice lA ln lc) (.slice (some ⟨ug, 0, none⟩) (q.length + 1) uc) (.slice (some ⟨mg, 0, none⟩) Y.length mc) (L ++ L2) Y HS7.out.tf HS7.out.tg HS7.out.fb HS7.out.gb HS7.out.szW HS7.out.l (fun f hf => ⟨(HS7.out.fs f hf).1, HF6.out f hf⟩) HO7.out HM7.out HYn.out HYat.out (by omega) (HM.out w7 HS7.out.kp) hgl0)))
              | (go_at_call 27; go_must (refine HC7.out.mono ?_; intro e w8 hp8; obtain ⟨v8, L4, rfl, hfin, hS8, hP8, hRg8, hl8, hf8⟩ := HS7.out.after HO7.out (fun g hg => (HU6.out g hg).imp_right fun h => Nat.le_trans h4w h) HA6.out H37.out HRg7.out hp8; have HR8 := Lib.hid (HOne2.out L4 hfin); have HS8 := Lib.hid hS8; have HP8 := Lib.hid hP8; have HRg8 := Lib.hid hRg8; have HF8 := Lib.hid hf8; clear hp8 hfin hS8 hP8 hRg8 hf8))
            have HM8 : Hid (Tr.rgLeft w8 mb r < Tr.rgLeft wr mb r) := Lib.hid (by rw [HRg4.out.same_left HRg8.out]; exact HLt.out)
            go_roundw
            case rel => exact ⟨L2 ++ L4, v8, _, _, rfl, HRg8, by rw [← List.append_assoc]; exact HS8, HP8, HR8, by rw [← List.append_assoc]; exact hl8, Lib.hid fun f hf => (List.mem_append.1 hf).elim (HF2.out f) (HF8.out f)⟩
            case measure => exact HM8.out
          · rw [hlf] at HOne HCo
            have HOne2 : Hid (∀ (v : Value) (L4 : List Tr.Fd), Tr.Fin_ F G (q ++ [k]) (L ++ L2 ++ [(⟨cb, v, q ++ [k]⟩ : Tr.Fd)]).length L4 → Tr.Res F G q L.length (fun n => left n && !decide (n = k)) (L2 ++ ([(⟨cb, v, q ++ [k]⟩ : Tr.Fd)] ++ L4))) := Lib.hid fun v L4 h => by simpa using HOne.out v L4 (by simpa using h)
            clear HOne hlf
            go_wp2_with first
              | (go_at_call 47; go_must (refine HMa4.out.mono ?_; rintro e w5 ⟨vm, rfl, hom, hb5⟩; obtain ⟨mg, mc, rfl⟩ := Tr.row_form1 hom hYp; have hb5s := hb5.size; have hb5a := hb5.alloc hb5s (.cells #[.string ⟨k.toArray⟩] 9)))
              | (at_builtin; refine wpList_push _ rfl _ _ 27 rfl base 9 i0 _ 1 16 Tryz.underlying27 HI.out HZ.out.1 HZ.out.2.1 HZ.out.2.2 rfl (by decide) vp q.length (byS q) rfl (HP4.out.below hb5a) ⟨w5.heap.size, 0, none⟩ 1 1 [.string ⟨k.toArray⟩] rfl rfl (cells_new w5 [.string ⟨k.toArray⟩] 9) (fun u hu => by rw [List.mem_singleton.1 hu]; rfl) (by decide) (by unfold maxLen; omega) (by omega) (by simp; omega) ?_; intro u w6 hA6; have hway := HS4.out.way hb5a hA6; have HS6 := Lib.hid hway.1; have HO6 := Lib.hid hway.2.1; have HU6 := Lib.hid hway.2.2.1; have HF6 := Lib.hid hway.2.2.2; have HRg6 := Lib.hid ((HRg4.out.below hb5a rfl).kp (Tr.app_kp hA6) (fun i hi => Tr.row_cs hA6.old hi)); have hma := Tr.owns_below hom ((Below.refl _ _).alloc (Nat.le_refl _) (.cells #[.string ⟨k.toArray⟩] 9)) rfl; have HM6 : Hid (Tr.OwnP w4.heap.size w6 (.slice (some ⟨mg, 0, none⟩) Y.length mc) G Y) := Lib.hid (owns_keep hma fun g hg => (Tr.app_kp hA6).block g (World.ownsRow.lt hma g hg).2 (fun ho => Tr.rows_ne hA6.old hma Tr.ne_str_br ho hg)); have HA6 := Lib.hid hA6; obtain ⟨ug, uc, rfl⟩ := Tr.row_form1 hA6.own (Nat.succ_pos _); clear hway hma hA6 hom)
              | (go_at_call 48; go_must (refine (HCo.out w6 _ _ _ HS6.out.tg HM6.out).mono ?_; rintro e w7 ⟨rfl, hb7⟩; have HS7 := Lib.hid (HS6.out.below hb7); have HO7 := Lib.hid (HO6.out.below hb7); have HRg7 := Lib.hid (HRg6.out.below hb7 rfl); have HM7 := Lib.hid (Tr.owns_base (Tr.owns_below HM6.out hb7 rfl) h4b); have H37 : Hid (∀ g, vp.ownBlock = some g → w7.heap[g]? = w6.heap[g]?) := Lib.hid (fun g hg => hb7.block g (Nat.lt_of_lt_of_le (HS6.out.pat g hg).1 HS6.out.kp.size)); have HP7 : Hid (OwnS base w7 vp q) := Lib.hid (OwnS.below (l := q) HA6.out.short hb7); have h7w : w.heap.size ≤ w7.heap.size := HS7.out.kp.size; have h7b : base ≤ w7.heap.size := HS7.out.szW))
              | (go_at_call 50; go_must (refine (Tr.clone_any HO7.out hpe.symm hpl).mono ?_; rintro e w8 ⟨vc, rfl, hoc, hb8⟩; obtain ⟨vg, vcap, rfl⟩ := Tr.own_form1 hoc hpe; have hb8s := hb8.size; have hb8a := hb8.alloc hb8s (.cells #[.pointer (some ⟨cb, 0, none⟩), .slice (some ⟨vg, 0, none⟩) (q.length + 1) vcap] 80); have HOc : Hid (OwnS w7.heap.size (w8.alloc (.cells #[.pointer (some ⟨cb, 0, none⟩), .slice (some ⟨vg, 0, none⟩) (q.length + 1) vcap] 80)) (.slice (some ⟨vg, 0, none⟩) (q.length + 1) vcap) (q ++ [k])) := Lib.hid (hoc.below ((Below.refl _ _).alloc (Nat.le_refl _) _)); clear hoc))
              | (at_builtin; go_must (refine wpList_push _ rfl _ _ 61 rfl base 80 j0 _ 2 32 Tryz.underlying61 HJ.out HY.out.1 HY.out.2.1 HY.out.2.2 rfl (by decide) (.slice lA ln lc) (L ++ L2).length (Tr.fvs (L ++ L2)) rfl (Tr.owns_below HS7.out.l hb8a rfl) ⟨w8.heap.size, 0, none⟩ 1 1 [.pointer (some ⟨cb, 0, none⟩), .slice (some ⟨vg, 0, none⟩) (q.length + 1) vcap] rfl rfl (cells_new w8 [.pointer (some ⟨cb, 0, none⟩), .slice (some ⟨vg, 0, none⟩) (q.length + 1) vcap] 80) (fun u hu => by simp at hu; rcases hu with rfl | rfl <;> rfl) (by decide) (by unfold maxLen; omega) (by omega) (by simp; omega) ?_; intro lv2 w9 hA9; have hpu := HS7.out.push (f := ⟨cb, .slice (some ⟨vg, 0, none⟩) (q.length + 1) vcap, q ++ [k]⟩) hb8a (Tr.owns_base HOc.out h7b) (fun g hg => Nat.le_trans h7w (Tr.own_at HOc.out hg).1) hA9; have HS9 := Lib.hid hpu.1; have hsame := hpu.2; have HO9 : Hid (OwnS base w9 (.slice (some ⟨ug, 0, none⟩) (q.length + 1) uc) (q ++ [k])) := Lib.hid (owns_keep HO7.out fun g hg => hsame g (Tr.own_at HO7.out hg).2 (fun e2 => Tr.rows_ne HO7.out HS7.out.l Tr.ne_str_find hg e2)); have HM9 : Hid (Tr.OwnP base w9 (.slice (some ⟨mg, 0, none⟩) Y.length mc) G Y) := Lib.hid (owns_keep HM7.out fun g hg => hsame g (World.ownsRow.lt HM7.out g hg).2 (fun e2 => Tr.rows_ne HS7.out.l HM7.out Tr.ne_find_br e2 hg)); have HRg9 := Lib.hid ((HRg7.out.below hb8a rfl).kp (Tr.app_kp hA9) (fun i hi => Tr.row_cs hA9.old hi)); have H39 : Hid (∀ g, vp.ownBlock = some g → w9.heap[g]? = w6.heap[g]?) := Lib.hid (fun g hg => (hsame g (Nat.lt_of_lt_of_le (HS7.out.pat g hg).1 HS7.out.kp.size) (fun e2 => Tr.rows_ne (HP7.out) HS7.out.l Tr.ne_str_find hg e2)).trans (H37.out g hg)); have hl9 : (L ++ L2 ++ [(⟨cb, .slice (some ⟨vg, 0, none⟩) (q.length + 1) vcap, q ++ [k]⟩ : Tr.Fd)]).length ≤ 513 := (by rw [List.length_append, List.length_singleton]; omega); have HF9 : Hid (∀ f ∈ L ++ L2 ++ [(⟨cb, .slice (some ⟨vg, 0, none⟩) (q.length + 1) vcap, q ++ [k]⟩ : Tr.Fd)], OwnS base w9 f.v f.q ∧ ∀ g, f.v.ownBlock = some g → (Value.slice (some ⟨ug, 0, none⟩) (q.length + 1) uc).ownBlock ≠ some g) := Lib.hid (fun f hf => ⟨(HS9.out.fs f hf).1, (List.mem_append.1 hf).elim (HF6.out f) (fun h => (by rw [List.mem_singleton] at h; subst h; exact Tr.new_apart HOc.out HO7.out))⟩); have HC9 := Lib.hid (HCk.out w9 lv2 (.slice (some ⟨ug, 0, none⟩) (q.length + 1) uc) (.slice (some ⟨mg, 0, none⟩) Y.length mc) (L ++ L2 ++ [⟨cb, .slice (some ⟨vg, 0, none⟩) (q.length + 1) vcap, q ++ [k]⟩]) Y HS9.out.tf HS9.out.tg HS9.out.fb HS9.out.gb HS9.out.szW HS9.out.l HF9.out HO9.out HM9.out HYn.out HYat.out hl9 (HM.out w9 HS9.out.kp) hgl0); clear hpu hsame hA9))
              | (go_at_call 27; go_must (refine HC9.out.mono ?_; intro e w10 hp8; obtain ⟨v8, L4, rfl, hfin, hS8, hP8, hRg8, hl8, hf8⟩ := HS9.out.after HO9.out (fun g hg => (HU6.out g hg).imp_right fun h => Nat.le_trans h4w h) HA6.out H39.out HRg9.out hp8; have HR8 := Lib.hid (HOne2.out _ L4 hfin); have HS8 := Lib.hid hS8; have HP8 := Lib.hid hP8; have HRg8 := Lib.hid hRg8; have HF8 := Lib.hid hf8; clear hp8 hfin hS8 hP8 hRg8 hf8))
            have HM8 : Hid (Tr.rgLeft w10 mb r < Tr.rgLeft wr mb r) := Lib.hid (by rw [HRg4.out.same_left HRg8.out]; exact HLt.out)
            have h7w2 := h7w
            go_roundw
            case rel => exact ⟨L2 ++ ([(⟨cb, .slice (some ⟨vg, 0, none⟩) (q.length + 1) vcap, q ++ [k]⟩ : Tr.Fd)] ++ L4), v8, _, _, rfl, HRg8, Lib.hid (by have := HS8.out; simpa [List.append_assoc] using this), HP8, HR8, by simpa [List.append_assoc] using hl8, Lib.hid fun f hf => (List.mem_append.1 hf).elim (HF2.out f) fun hf => (List.mem_append.1 hf).elim (fun h => by rw [List.mem_singleton] at h; subst h; exact fun g hg => Nat.le_trans h7w2 (Tr.own_at HOc.out hg).1) (HF8.out f)⟩
            case measure => exact HM8.out
end Go.Proofs.YtfmbbhcjnidcbaaGreatDoor
