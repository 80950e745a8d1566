/-
  TrNames: CONTRACTS: package trie: names: all that go on from a branch, in order.
  TrNames2: CONTRACTS: package trie: names, whole; Names.
-/
import Derived.Test.YtfmbbhcjnidcbaaGreatDoorJ20
import Derived.Deep.RegionLaw

namespace Go.Proofs.YtfmbbhcjnidcbaaGreatDoor
open Go.RowKit
open Me
namespace Tr
/-- What names leaves. -/
def NmPost (base : Nat) (F : Ns) (q : Path) (vl vp : Value) (P0 : List Path) (w : World) (e : Ending) (w' : World) : Prop :=
  ∃ v ps, e = .returned v ∧ ps.Pairwise (fun a b => ltP a b = true) ∧ (∀ x, x ∈ ps ↔ Beh q x ∧ isLeaf F x = true) ∧ OwnS base w' v ((P0 ++ ps).map Nm.jn) ∧ OwnS base w' vp q ∧
    Kp (fun i => vl.ownBlock = some i ∨ vp.ownBlock = some i) w w' ∧ ∀ g, v.ownBlock = some g → vl.ownBlock = some g ∨ w.heap.size ≤ g
def NmC (base : Nat) (T0 : TypeId) (x0 : Value) (c : Nat) (F : Ns) (q : Path) (n : Nd) : Prop :=
  ∀ (w : World) (vl vp : Value) (P0 : List Path), Tree w T0 x0 c F → (∀ i, own F i → i < base) → base ≤ w.heap.size → OwnS base w vl (P0.map Nm.jn) → OwnS base w vp q → (∀ g, vp.ownBlock = some g → vl.ownBlock ≠ some g) → Ok F q P0 →
    Calls Tryz.prog 33 #[.pointer (some ⟨n.b, 0, none⟩), vl, vp] w (NmPost base F q vl vp P0 w)
theorem join_own (p : Path) (hj : (Nm.jn p).length ≤ 4294967270) (hn : p.length ≤ 1048576) (base : Nat) (W : World) (A : Option Addr) (c : Nat) (h : OwnS base W (.slice A p.length c) p) :
    Calls Tryz.prog 44 #[.slice A p.length c] W fun e w' => e = .returned (.string ⟨(Nm.jn p).toArray⟩) ∧ Below W.heap.size W w' :=
  join_any p A c W ((Rd.own h).mono fun _ _ _ => trivial) (by omega) (by omega)
theorem NW.beside {w0 : World} {base : Nat} {T0 : TypeId} {x0 : Value} {c : Nat} {F : Ns} {vl vp vk : Value} {ks : List (List UInt8)} {w3 wb w5 : World} {lv lv2 u : Value} {Pl : List Path} {x : List UInt8} {p : Path} (h : NW w0 base T0 x0 c F vl vp vk ks w3 lv Pl) (hb : Below w3.heap.size w3 wb)
    (ha : App wb base 9 1 lv (Pl.map Nm.jn).length (byS (Pl.map Nm.jn)) 1 [.string ⟨x.toArray⟩] lv2 w5) (ho : OwnS base w3 u p) (hu : ∀ g, u.ownBlock = some g → lv.ownBlock ≠ some g) :
    OwnS base w5 u p ∧ (∀ g, u.ownBlock = some g → lv2.ownBlock ≠ some g) ∧ ∀ g, vp.ownBlock = some g → w5.heap[g]? = w3.heap[g]? := by
  have hk : Kp (fun i => lv.ownBlock = some i) wb w5 := (Kp.refl _ wb).grown ha.grown fun g hg => .inr hg
  refine ⟨owns_keep (ho.below hb) fun g hg => hk.block g (Nat.lt_of_lt_of_le (own_at ho hg).2 hb.size) (hu g hg), fun g hg e => ?_, fun g hg => ?_⟩
  · rcases ha.lt g e with h2 | h2
    · exact hu g hg h2
    · have := (own_at ho hg).2; have := hb.size; omega
  · have h1 := (h.pat g hg).2.1
    have h2 := Nat.lt_of_lt_of_le h1 h.kp.size
    exact (hk.block g (Nat.lt_of_lt_of_le h2 hb.size) (h.pat g hg).1).trans (hb.block g h2)
theorem NW.after {w0 : World} {base : Nat} {T0 : TypeId} {x0 : Value} {c : Nat} {F : Ns} {vl vp vk : Value} {ks : List (List UInt8)} {w3 w5 w6 : World} {lv u : Value} {Pl : List Path} {p q : Path} {e : Ending} (h : NW w0 base T0 x0 c F vl vp vk ks w5 lv Pl) (ho : OwnS base w5 u p)
    (hu : ∀ g, u.ownBlock = some g → (vp.ownBlock = some g ∨ w0.heap.size ≤ g) ∧ lv.ownBlock ≠ some g ∧ vk.ownBlock ≠ some g) (hbk : ∀ W, OwnS base W u p → (∀ g, vp.ownBlock = some g → u.ownBlock ≠ some g → W.heap[g]? = w3.heap[g]?) → OwnS base W vp q)
    (h35 : ∀ g, vp.ownBlock = some g → w5.heap[g]? = w3.heap[g]?) (hp : NmPost base F p lv u Pl w5 e w6) :
    ∃ v psc, e = .returned v ∧ psc.Pairwise (fun a b => ltP a b = true) ∧ (∀ x, x ∈ psc ↔ Beh p x ∧ isLeaf F x = true) ∧ NW w0 base T0 x0 c F vl vp vk ks w6 v (Pl ++ psc) ∧ OwnS base w6 vp q := by
  obtain ⟨v, psc, he, h1, h2, h3, h4, h5, h6⟩ := hp
  refine ⟨v, psc, he, h1, h2, h.sub (fun g hg _ => ⟨(hu g hg).1, (own_at ho hg).1, (hu g hg).2.1, (hu g hg).2.2⟩) h5 h3 h6, hbk w6 h4 fun g hg hne => ?_⟩
  have hlt := Nat.lt_of_lt_of_le (h.pat g hg).2.1 h.kp.size
  exact (h5.block g hlt (fun hh => hh.elim (h.pat g hg).1 hne)).trans (h35 g hg)
end Tr

set_option maxRecDepth 100000 in
set_option maxHeartbeats 2000000 in
theorem names_at {base : Nat} {T0 : TypeId} {x0 : Value} {c N : Nat} {F : Tr.Ns} {q : Tr.Path} {n : Tr.Nd} (hn : F q = some n) (hc9 : c ≤ 1099511627776) (hN : Tr.Few F N) (hN9 : N ≤ 1099511627776) (hC : Hid (∀ k y, F (q ++ [k]) = some y → Tr.NmC base T0 x0 c F (q ++ [k]) y)) : Tr.NmC base T0 x0 c F q n := by
  intro w vl vp P0 hT hob hbs hl hp hap hok
  obtain ⟨c0, f0, nl⟩ := hT.cell hn
  have hM := hT.map q n hn
  have HSo := Lib.hid (Tr.sortedKeys_any hM hc9)
  have HT := Lib.hid hT
  obtain ⟨i0, hi0, hz0, hz1, hz2⟩ := info_parts strinfoN
  have HI := Lib.hid hi0
  have HZ := Lib.hid (And.intro hz0 (And.intro hz1 hz2))
  have hnob : n.b < base := hob _ ⟨q, n, hn, .inl rfl⟩
  have HNm : Hid (∀ k W, Tr.Tree W T0 x0 c F → k.length ≤ 1048576 → (Instr.lookup 46 (.map n.mb) (.string ⟨k.toArray⟩) false).run Tryz.prog W = .ok (Tr.ptr ((F (q ++ [k])).map (·.b))) W) := Lib.hid fun k W h hk => h.look hn hk
  have HCt : Hid (∀ W, Tr.Tree W T0 x0 c F → W.cell? ⟨n.b, 0, none⟩ = some (.map n.mb)) := Lib.hid fun W h => (h.cell hn).1
  have HKey : Hid (∀ k, F (q ++ [k]) ≠ none → k.length ≤ 1048576) := Lib.hid (hT.key q)
  have HCl := Lib.hid hT.closed
  have HOK := Lib.hid hok
  have HFew := Lib.hid hN
  have HL := Lib.hid hl
  have HP := Lib.hid hp
  have HAP := Lib.hid hap
  have HOB := Lib.hid hob
  clear hn hN hT hM hi0 hz0 hz1 hz2 hl hp hap hok f0
  generalize n.mb = mb at *
  generalize n.b = nb at *
  go_enter Tryz.func33, Tryz.ntmps33
  go_wp2_with (first
    | (go_at_call 57; go_must (refine (Tr.keys_any _ _).mono ?_; rintro e w1 ⟨rfl, rfl⟩))
    | (go_at_call 56; go_must (refine HSo.out.mono ?_; rintro e w2 ⟨vk, ks, rfl, hks, hkm, hkl, hok, hb2⟩; obtain ⟨kA, kc, rfl⟩ := OwnS.slice hok)))
  have HB2 : Hid (Below w.heap.size w w2) := Lib.hid (lowBox' hb2)
  have HKS := Lib.hid hks
  have HKM : Hid (∀ x, x ∈ ks ↔ F (q ++ [x]) ≠ none) := Lib.hid fun x => (hkm x).trans (by cases F (q ++ [x]) <;> simp)
  have hNW0 : Tr.NW w base T0 x0 c F vl vp (.slice kA ks.length kc) ks w2 vl P0 :=
    { tree := HT.out.below HB2.out, ob := HOB.out, sz := hbs, kp := Kp.of_below HB2.out, l := HL.out.below HB2.out,
      k := by
        have h1 := hok
        exact ⟨h1.1, h1.2.imp id fun ⟨g, cap, cur, e1, e2, e3⟩ => ⟨g, cap, cur, e1, by omega, e3⟩⟩
      lat := fun g hg => .inl hg
      kat := fun g hg => ⟨by have := (Tr.own_at hok hg).1; omega, fun e => by have := (Tr.own_at hok hg).1; have := (Tr.own_at HL.out e).2; omega⟩
      pat := fun g hg => ⟨HAP.out g hg, (Tr.own_at HP.out hg).2, (Tr.own_at HP.out hg).1⟩
      vat := fun g hg => ⟨(Tr.own_at HL.out hg).2, (Tr.own_at HL.out hg).1⟩ }
  have HNW0 := Lib.hid hNW0
  have HP0 := Lib.hid (HP.out.below HB2.out)
  have hkl9 : ks.length ≤ 1099511627776 := by omega
  have hkn : (ks.length : Int) ≤ 1099511627776 := by omega
  clear hks hkm hok hb2 hNW0 hkl
  go_loopw [1, 18] (fun s1 i wr => ∃ (j : Nat) (ps : List Tr.Path) (lv : Value), lv = s1 ∧ j ≤ ks.length ∧ i = .int .i64 j ∧ Hid (Tr.NW w base T0 x0 c F vl vp (.slice kA ks.length kc) ks wr lv (P0 ++ ps)) ∧ Hid (OwnS base wr vp q) ∧ Hid (Tr.Part F q (ks.take j) ps)) (fun _ i _ => ks.length - (intOf i).toNat)
  case atStart => exact ⟨0, [], vl, rfl, Nat.zero_le _, rfl, by rw [List.append_nil]; exact HNW0, HP0, Lib.hid (by rw [List.take_zero]; exact Tr.Part.start F q)⟩
  case round =>
    obtain ⟨j, ps, lv, rfl, hj, rfl, HW, HPr, HPa⟩ := hrel
    have hj0 : (0 : Int) ≤ (j : Int) := by omega
    by_cases hlt : j < ks.length
    · obtain ⟨kg, kcap, hkv⟩ := OwnS.form HW.out.k (by omega)
      obtain ⟨rfl, rfl⟩ : kA = some ⟨kg, 0, none⟩ ∧ kc = kcap := by
        simp only [Value.slice.injEq, true_and] at hkv
        exact hkv
      clear hkv
      have ec := HW.out.k.cell j hlt
      have hjl : (j : Int) < (ks.length : Int) := by omega
      have hkj : F (q ++ [ks[j]]) ≠ none := (HKM.out _).1 (List.getElem_mem hlt)
      obtain ⟨y, hy⟩ := Option.ne_none_iff_exists'.1 hkj
      have hk1 := HKey.out _ hkj
      have hlow : ∀ k' ∈ ks.take j, k' < ks[j] := by
        intro k' hk'
        obtain ⟨i, hi, rfl⟩ := List.getElem_of_mem hk'
        rw [List.length_take] at hi
        rw [List.getElem_take]
        exact List.pairwise_iff_getElem.1 HKS.out i j (by omega) hlt (by omega)
      have HLow := Lib.hid hlow
      have hTk : ks.take (j + 1) = ks.take j ++ [ks[j]] := List.take_succ_eq_append_getElem hlt
      have HTk := Lib.hid hTk
      clear hlow hTk
      have hkl2 : ks.length ≤ 1099511627776 := hkl9
      have hCk := hC.out ks[j] y hy
      unfold Tr.NmC at hCk
      have HCk := Lib.hid hCk
      clear hCk
      have HStep : Hid (∀ psc : List Tr.Path, psc.Pairwise (fun a b => Tr.ltP a b = true) → (∀ x, x ∈ psc ↔ Tr.Beh (q ++ [ks[j]]) x ∧ Tr.isLeaf F x = true) → Tr.Part F q (ks.take (j + 1)) (ps ++ ((if Tr.isLeaf F (q ++ [ks[j]]) = true then [q ++ [ks[j]]] else []) ++ psc))) := Lib.hid fun psc h1 h2 => by
        rw [HTk.out]; exact HPa.out.step HLow.out h1 h2
      have HOk := Lib.hid (HOK.out.step HPa.out HLow.out)
      have HWay : Hid (∀ wa u w3, Below wr.heap.size wr wa → Me.App wa base 9 1 vp q.length (byS q) 1 [.string ⟨(ks[j]).toArray⟩] u w3 → Tr.NW w base T0 x0 c F vl vp (.slice (some ⟨kg, 0, none⟩) ks.length kc) ks w3 lv (P0 ++ ps) ∧ OwnS base w3 u (q ++ [ks[j]]) ∧
          (∀ g, u.ownBlock = some g → (vp.ownBlock = some g ∨ w.heap.size ≤ g) ∧ lv.ownBlock ≠ some g ∧ (Value.slice (some ⟨kg, 0, none⟩) ks.length kc).ownBlock ≠ some g) ∧ ∀ W, OwnS base W u (q ++ [ks[j]]) → (∀ g, vp.ownBlock = some g → u.ownBlock ≠ some g → W.heap[g]? = w3.heap[g]?) → OwnS base W vp q) :=
        Lib.hid fun wa u w3 hb ha => ⟨(HW.out.way hb ha).1, (HW.out.way hb ha).2.own, (HW.out.way hb ha).2.at_, fun W ho hk => (HW.out.way hb ha).2.keep ho hk⟩
      have hql := (HFew.out.len _ hkj).2
      have hjn := (HFew.out.len _ hkj).1
      have hqe : (q ++ [ks[j]]).length = q.length + 1 := by simp
      have hpne : q ++ [ks[j]] ≠ [] := by simp
      have hlf : Tr.isLeaf F (q ++ [ks[j]]) = y.lf := Tr.isLeaf_of hy
      rw [hlf] at HStep HOk
      have hcnt := HFew.out.cnt _ HOk.out.nodup HOk.out.leaf
      have hlA := HNm.out ks[j] wr.drew (HW.out.tree.keep fun _ _ => rfl) hk1
      have hlB := HNm.out ks[j] (wr.alloc (.cells #[.string ⟨(ks[j]).toArray⟩] 9)).drew ((HW.out.below (((Below.refl _ _).alloc (Nat.le_refl _) _).drew)).tree) hk1
      have HlC := Lib.hid (fun W h => HNm.out ks[j] W h hk1)
      have hct := HCt.out _ HW.out.tree
      have hnl : nb < wr.heap.size := by have := HW.out.szW; omega
      clear HLow HTk HPa HOK hkj HNm
      generalize ks[j] = k at *
      generalize q ++ [k] = p at *
      rw [hy] at hlA hlB HlC
      simp only [Option.map_some, Tr.ptr] at hlA hlB HlC
      have HPb : Hid (∀ W, Below wr.heap.size wr W → W.ownsRow base 9 1 vp q.length (byS q)) := Lib.hid fun W h => HPr.out.below h
      have hbz := HW.out.szW
      have hq9 : q.length + 1 ≤ 1048576 := by omega
      clear HPr
      have HJn := Lib.hid (Tr.join_own p hjn hql base)
      have HYl : Hid (∀ W, Tr.Tree W T0 x0 c F → W.cell? ⟨y.b, 1, none⟩ = some (.bool y.lf)) := Lib.hid fun W h => (h.leafc hy hpne).1
      have hpp : 0 < p.length := by cases p with
        | nil => exact absurd rfl hpne
        | cons a r => simp
      clear hjn hqe hy hlf hpne
      generalize y.lf = lf at *
      generalize y.b = yb at *
      go_wp2_with fail
      go_region_law (refine step_push _ rfl (.tmp 28) (.tmp 30) 27 rfl base 9 i0 _ 1 16 Tryz.underlying27 HI.out HZ.out.1 HZ.out.2.1 HZ.out.2.2 rfl (by decide) vp q.length (byS q) (by simp [Act.eval]) (HPb.out _ (((Below.refl _ _).alloc (Nat.le_refl _) _).drew)) ⟨wr.heap.size, 0, none⟩ 1 1 [.string ⟨k.toArray⟩] (by simp [Act.eval]) rfl (cells_new wr [.string ⟨k.toArray⟩] 9) (fun u hu => by rw [List.mem_singleton.1 hu]; rfl) (by decide) (by unfold maxLen; omega) (by omega) (by simp; omega) ?_; intro u w3 hA; obtain ⟨hW3, ho3, hu3, hbk3⟩ := HWay.out _ _ _ (((Below.refl _ _).alloc (Nat.le_refl _) _).drew) hA; have HW3 := Lib.hid hW3; have HO3 := Lib.hid ho3; have HU3 := Lib.hid hu3; have HBk := Lib.hid hbk3; have hlC := HlC.out w3 hW3.tree; have hct3 := HCt.out w3 hW3.tree; have hyl3 := HYl.out w3 hW3.tree; clear hA hW3 ho3 hu3 hbk3)
      all_goals
        obtain ⟨ug, uc, rfl⟩ := OwnS.form HO3.out hpp
        have hb3 := HW3.out.szW
        clear hlA hlB hlC HlC hct hct3 HWay HPb HYl HNW0 HP0 HSo
        cases lf with
        | false =>
          have HOk2 : Hid (Tr.Ok F p (P0 ++ ps)) := Lib.hid (by simpa using HOk.out)
          have HSt2 : Hid (∀ psc : List Tr.Path, psc.Pairwise (fun a b => Tr.ltP a b = true) → (∀ x, x ∈ psc ↔ Tr.Beh p x ∧ Tr.isLeaf F x = true) → Tr.Part F q (ks.take (j + 1)) (ps ++ psc)) := Lib.hid fun psc h1 h2 => by simpa using HStep.out psc h1 h2
          clear HOk HStep HJn
          have HC3 := Lib.hid (HCk.out w3 lv (.slice (some ⟨ug, 0, none⟩) p.length uc) (P0 ++ ps) HW3.out.tree HOB.out hb3 HW3.out.l HO3.out (fun g hg => (HU3.out g hg).2.1) HOk2.out)
          go_wp2_with (go_at_call 33; go_must (refine HC3.out.mono ?_; intro e w6 hp6; obtain ⟨v, psc, rfl, h1, h2, h3, h4⟩ := HW3.out.after HO3.out HU3.out HBk.out (fun _ _ => rfl) hp6; clear hp6; have HR1 := Lib.hid (HSt2.out psc h1 h2); have HR2 := Lib.hid h3; have HR3 := Lib.hid h4; clear h1 h2 h3 h4))
          go_roundw
          case rel => exact ⟨j + 1, ps ++ psc, v, rfl, by omega, by go_num, by rw [← List.append_assoc]; exact HR2, HR3, HR1⟩
          case measure => simp [intOf]; omega
        | true =>
          have HOk2 : Hid (Tr.Ok F p (P0 ++ ps ++ [p])) := Lib.hid (by simpa using HOk.out)
          have HSt2 : Hid (∀ psc : List Tr.Path, psc.Pairwise (fun a b => Tr.ltP a b = true) → (∀ x, x ∈ psc ↔ Tr.Beh p x ∧ Tr.isLeaf F x = true) → Tr.Part F q (ks.take (j + 1)) (ps ++ ([p] ++ psc))) := Lib.hid fun psc h1 h2 => by simpa using HStep.out psc h1 h2
          clear HOk HStep
          have hcn : ((P0 ++ ps).map Nm.jn).length + 1 ≤ 1099511627776 := by
            simp only [if_true, List.length_append, List.length_singleton] at hcnt
            rw [List.length_map, List.length_append]; omega
          clear hcnt
          have HJ3 := Lib.hid (HJn.out w3 _ uc HO3.out)
          go_wp2_with first
            | (go_at_call 44; go_must (refine HJ3.out.mono ?_; rintro e w4 ⟨rfl, hb4⟩; have hb4s := hb4.size; have hb5 := hb4.alloc hb4.size (.cells #[.string ⟨(Nm.jn p).toArray⟩] 9)))
            | (at_builtin; refine wpList_push _ rfl _ _ 27 rfl base 9 i0 _ 1 16 Tryz.underlying27 HI.out HZ.out.1 HZ.out.2.1 HZ.out.2.2 rfl (by decide) lv ((P0 ++ ps).map Nm.jn).length (byS ((P0 ++ ps).map Nm.jn)) rfl (HW3.out.below hb5).l ⟨w4.heap.size, 0, none⟩ 1 1 [.string ⟨(Nm.jn p).toArray⟩] rfl rfl (cells_new w4 [.string ⟨(Nm.jn p).toArray⟩] 9) (fun u hu => by rw [List.mem_singleton.1 hu]; rfl) (by decide) (by unfold maxLen; omega) (by omega) (by simp; omega) ?_; intro lv2 w5 hA5; have HW5 := Lib.hid (HW3.out.push hb5 hA5); have hbs := HW3.out.beside hb5 hA5 HO3.out (fun g hg => (HU3.out g hg).2.1); have HO5 := Lib.hid hbs.1; have HU5 : Hid (∀ g, (Value.slice (some ⟨ug, 0, none⟩) p.length uc).ownBlock = some g → (vp.ownBlock = some g ∨ w.heap.size ≤ g) ∧ lv2.ownBlock ≠ some g ∧ (Value.slice (some ⟨kg, 0, none⟩) ks.length kc).ownBlock ≠ some g) := Lib.hid (fun g hg => ⟨(HU3.out g hg).1, hbs.2.1 g hg, (HU3.out g hg).2.2⟩); have H35 := Lib.hid hbs.2.2; clear hbs hA5; have HC5 := Lib.hid (HCk.out w5 lv2 (.slice (some ⟨ug, 0, none⟩) p.length uc) (P0 ++ ps ++ [p]) HW5.out.tree HOB.out HW5.out.szW HW5.out.l HO5.out (fun g hg => (HU5.out g hg).2.1) HOk2.out))
            | (go_at_call 33; go_must (refine HC5.out.mono ?_; intro e w6 hp6; obtain ⟨v, psc, rfl, h1, h2, h3, h4⟩ := HW5.out.after HO5.out HU5.out HBk.out H35.out hp6; clear hp6; have HR1 := Lib.hid (HSt2.out psc h1 h2); have HR2 := Lib.hid h3; have HR3 := Lib.hid h4; clear h1 h2 h3 h4))
          go_roundw
          case rel => exact ⟨j + 1, ps ++ ([p] ++ psc), v, rfl, by omega, by go_num, Lib.hid (by have := HR2.out; simpa [List.append_assoc] using this), HR3, HR1⟩
          case measure => simp [intOf]; omega
    · obtain rfl : j = ks.length := by omega
      rw [List.take_length] at HPa
      go_wp2
      go_ret
      exact ⟨_, ps, rfl, HPa.out.1, HPa.out.done HCl.out (fun k hk => (HKM.out k).2 hk), HW.out.l, HPr.out, HW.out.kp, HW.out.lat⟩
end Go.Proofs.YtfmbbhcjnidcbaaGreatDoor

namespace Go.Proofs.YtfmbbhcjnidcbaaGreatDoor
open Go.RowKit
open Me

theorem names_deep {base : Nat} {T0 : TypeId} {x0 : Value} {c N D : Nat} {F : Tr.Ns} (hc9 : c ≤ 1099511627776) (hN : Tr.Few F N) (hN9 : N ≤ 1099511627776) (hD : ∀ x, F x ≠ none → x.length ≤ D) : ∀ (m : Nat) (q : Tr.Path) (n : Tr.Nd), F q = some n → D ≤ q.length + m → Tr.NmC base T0 x0 c F q n
  | 0, q, n, hn, h => names_at hn hc9 hN hN9 (Lib.hid fun k y hy => by
    have := hD (q ++ [k]) (by rw [hy]; simp)
    rw [List.length_append, List.length_singleton] at this
    omega)
  | m + 1, q, n, hn, h => names_at hn hc9 hN hN9 (Lib.hid fun k y hy => names_deep hc9 hN hN9 hD m (q ++ [k]) y hy (by rw [List.length_append, List.length_singleton]; omega))

namespace Tr
theorem Ok.nil (F : Ns) (q : Path) : Ok F q [] := ⟨List.nodup_nil, fun _ h => (by cases h), fun _ h => (by cases h)⟩
theorem jn_names {L : List (List UInt8)} (h : L.Pairwise RN) {F : Ns} (hF : Of F L) {ps : List Path} (hs : ps.Pairwise (fun a b => ltP a b = true)) (hm : ∀ x, x ∈ ps ↔ Beh [] x ∧ isLeaf F x = true) : ps.map Nm.jn = L := by
  have hpt : ∀ x ∈ ps, Nm.pt (Nm.jn x) = x := fun x hx => by
    obtain ⟨s, _, rfl⟩ := (hF.leaf x).1 ((hm x).1 hx).2
    rw [Nm.jn_pt]
  refine names_uniq ?_ h fun s => ?_
  · refine List.pairwise_map.2 (hs.imp_of_mem fun {a b} ha hb h => ?_)
    unfold RN
    rw [hpt a ha, hpt b hb]
    exact h
  · rw [List.mem_map]
    constructor
    · rintro ⟨x, hx, rfl⟩
      obtain ⟨t, ht, rfl⟩ := (hF.leaf x).1 ((hm x).1 hx).2
      rw [Nm.jn_pt]; exact ht
    · intro hs'
      have hl := (hF.is_leaf s).2 hs'
      refine ⟨Nm.pt s, (hm _).2 ⟨⟨List.nil_prefix, Nm.pt_ne s⟩, hl⟩, Nm.jn_pt s⟩
/-- A set of names in memory: a Trie at block b. -/
structure At_ (w : World) (b : Nat) (c : Nat) (F : Ns) (L : List (List UInt8)) : Prop where
  tree : Tree w 50 (.int .i64 L.length) c F
  root : ∃ n, F [] = some n ∧ n.b = b
  of : Of F L
  sorted : L.Pairwise RN
  ok : ∀ s ∈ L, Nm.is s = true
  cb : c ≤ 1048576
  lb : L.length ≤ 1048576
theorem At_.keep {w w' : World} {b c : Nat} {F : Ns} {L : List (List UInt8)} (h : At_ w b c F L) (hk : ∀ i, own F i → w'.heap[i]? = w.heap[i]?) : At_ w' b c F L := { h with tree := h.tree.keep hk }
theorem At_.below {w w' : World} {b c : Nat} {F : Ns} {L : List (List UInt8)} (h : At_ w b c F L) (hb : Below w.heap.size w w') : At_ w' b c F L := { h with tree := h.tree.below hb }
theorem is_len {s : List UInt8} (h : Nm.is s = true) : s.length ≤ 200 ∧ (Nm.pt s).length ≤ 20 := by
  unfold Nm.is at h
  obtain ⟨h1, h2⟩ := Bool.and_eq_true_iff.1 h
  obtain ⟨h3, _⟩ := Bool.and_eq_true_iff.1 h1
  exact ⟨of_decide_eq_true h3, of_decide_eq_true h2⟩
theorem pre_len {x : Path} {s : List UInt8} (h : x <+: Nm.pt s) : (Nm.jn x).length ≤ s.length ∧ x.length ≤ (Nm.pt s).length := by
  have h1 := h.length_le
  obtain ⟨r, hr⟩ := h
  refine ⟨?_, h1⟩
  have h2 := Nm.jn_take_len (Nm.pt s) x.length h1
  rw [Nm.jn_pt] at h2
  rw [← hr, List.take_left] at h2
  exact h2
theorem Of.path {F : Ns} {L : List (List UInt8)} (h : Of F L) (hok : ∀ s ∈ L, Nm.is s = true) {x : Path} (hx : F x ≠ none) : (Nm.jn x).length ≤ 200 ∧ x.length ≤ 20 ∧ ∀ k ∈ x, Nm.okP k = true := by
  by_cases e : x = []
  · subst e; exact ⟨Nat.zero_le _, Nat.zero_le _, fun _ h => (by cases h)⟩
  · obtain ⟨s, hs, hp⟩ := h.live x e hx
    obtain ⟨h1, h2⟩ := is_len (hok s hs)
    obtain ⟨h3, h4⟩ := pre_len hp
    exact ⟨by omega, by omega, fun k hk => Nm.is_all (hok s hs) k (hp.subset hk)⟩
theorem Of.few {F : Ns} {L : List (List UInt8)} (h : Of F L) (hok : ∀ s ∈ L, Nm.is s = true) : Few F L.length := by
  refine ⟨fun P hn hl => ?_, fun x hx => ?_⟩
  · have e9 : (L.map Nm.pt).length = L.length := List.length_map _
    rw [← e9]
    refine len_le_of_mem hn fun x hx => ?_
    obtain ⟨s, hs, e⟩ := (h.leaf x).1 (hl x hx)
    exact List.mem_map.2 ⟨s, hs, e⟩
  · obtain ⟨h1, h2, _⟩ := h.path hok hx
    exact ⟨by omega, by omega⟩
end Tr

set_option maxHeartbeats 1000000 in
theorem Names_any {w : World} {b c : Nat} {F : Tr.Ns} {L : List (List UInt8)} (h : Tr.At_ w b c F L) :
    Calls Tryz.prog 17 #[.pointer (some ⟨b, 0, none⟩)] w fun e w' => ∃ v, e = .returned v ∧ OwnS w.heap.size w' v L ∧ Below w.heap.size w w' := by
  obtain ⟨n, hn, rfl⟩ := h.root
  have hcb := h.cb
  have hlb := h.lb
  have hC := names_deep (base := w.heap.size) (T0 := 50) (x0 := .int .i64 L.length) (c := c) (N := L.length) (D := 20) (F := F) (by omega) (h.of.few h.ok) (by omega) (fun x hx => (h.of.path h.ok hx).2.1) 20 [] n hn (by simp)
  have hC1 := hC w (.slice none 0 0) (.slice none 0 0) [] h.tree (fun i hi => h.tree.lt hi) (Nat.le_refl _) (OwnS.nil _ _) (OwnS.nil _ _) (fun g hg => by cases hg) (Tr.Ok.nil F [])
  have HC := Lib.hid (hC1.mono (R' := fun e w' => ∃ v, e = .returned v ∧ OwnS w.heap.size w' v L ∧ Below w.heap.size w w') fun e w' hp => by
    obtain ⟨v, ps, he, h1, h2, h3, _, h5, _⟩ := hp
    rw [List.nil_append, Tr.jn_names h.sorted h.of h1 h2] at h3
    exact ⟨v, he, h3, h5.below (Nat.le_refl _) fun i _ hh => hh.elim (fun e => by cases e) (fun e => by cases e)⟩)
  clear hC hC1 h hn
  generalize n.b = nb at *
  go_enter Tryz.func17, Tryz.ntmps17
  go_wp2_with (go_at_call 33; go_must (refine HC.out.mono ?_; rintro e w1 ⟨v, rfl, h1, h2⟩))
  go_ret
  exact ⟨v, rfl, h1, h2⟩
end Go.Proofs.YtfmbbhcjnidcbaaGreatDoor
