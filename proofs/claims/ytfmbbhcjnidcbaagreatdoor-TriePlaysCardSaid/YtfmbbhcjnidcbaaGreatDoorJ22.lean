/-
  TrSetP: A set of names in memory: what Insert and Remove leave of it.
  TrSet: CONTRACTS: package trie: Has, Insert, Remove, Len, New.
  TrSet2: CONTRACTS: package trie: Insert, Remove, Len, New.
-/
import Derived.Test.YtfmbbhcjnidcbaaGreatDoorJ21
import Derived.Deep.RegionLaw

namespace Go.Proofs.YtfmbbhcjnidcbaaGreatDoor
open Go.RowKit
open Me
namespace Tr
/-- A name more, if it is one. -/
def insV (L : List (List UInt8)) (s : List UInt8) : List (List UInt8) := if Nm.is s = true then (if s ∈ L then L else ins L s) else L
theorem RowS.of_own {base : Nat} {w : World} {g n c : Nat} {l : List (List UInt8)} (h : OwnS base w (.slice (some ⟨g, 0, none⟩) n c) l) : RowS w g 0 l := ⟨h.lt.2, fun j hj => by rw [Nat.zero_add]; exact h.cell j hj⟩
/-- The root's own second cell. -/
theorem Tree.count {w w' : World} {T0 : TypeId} {x0 x1 : Value} {c : Nat} {F : Ns} (h : Tree w T0 x0 c F) {n : Nd} (hn : F [] = some n) (hh : w'.heap[n.b]? = some (nodeC T0 x1 [] n)) (hk : ∀ i, own F i → i ≠ n.b → w'.heap[i]? = w.heap[i]?) : Tree w' T0 x1 c F :=
  { h with
    node := fun q y hy => by
      by_cases e : q = []
      · subst e
        rw [hn] at hy
        obtain rfl := Option.some.inj hy
        exact hh
      · rw [hk _ ⟨q, y, hy, .inl rfl⟩ (fun e2 => e (h.inj _ _ _ _ hy hn e2)), h.node q y hy]
        rw [nodeC_ne e, nodeC_ne e]
    map := fun q y hy => (h.map q y hy).keep fun m hm => hk m ⟨q, y, hy, .inr hm⟩ (Ne.symm (h.apart hn hy hm)) }
/-- What Insert leaves. -/
def InsR (w : World) (b c : Nat) (F : Ns) (L L' : List (List UInt8)) (w' : World) : Prop :=
  ∃ c' F', c' ≤ c + 20 ∧ At_ w' b c' F' L' ∧ Kp (own F) w w' ∧ ∀ i, own F' i → own F i ∨ w.heap.size ≤ i
theorem InsR.same {w w' : World} {b c : Nat} {F : Ns} {L : List (List UInt8)} (h : At_ w b c F L) (hb : Below w.heap.size w w') : InsR w b c F L L w' := ⟨c, F, by omega, h.below hb, Kp.of_below hb, fun _ => .inl⟩
theorem grown_more {F F' : Ns} {p : Path} (h : Grown F F' p) (hl : isLeaf F p = true) : More F F' p := ⟨h.dom, fun x => by
  rw [h.leaf]
  exact ⟨.inl, fun h1 => h1.elim (fun h => h) (fun e => e ▸ hl)⟩⟩
theorem grown_leaf {F F' : Ns} {p : Path} (h : Grown F F' p) {y : Nd} (hy : F' p = some y) : More F (setF F' p (some ⟨y.b, y.mb, true⟩)) p := by
  refine ⟨fun x => ?_, fun x => ?_⟩
  · by_cases e : x = p
    · subst e; rw [setF_same]; simp
    · rw [setF_other _ _ e]; exact h.dom x
  · by_cases e : x = p
    · subst e; unfold isLeaf; rw [setF_same]; simp
    · rw [← h.leaf]
      unfold isLeaf
      rw [setF_other _ _ e]
      simp [e]
/-- It was there. -/
theorem ins_there {w W w' : World} {b c : Nat} {F : Ns} {L : List (List UInt8)} {s : List UInt8} (h : At_ w b c F L) (hW : Below w.heap.size w W) (hs : s ∈ L) (hc : c + 20 ≤ 1048576) {v : Value} (hg : GrowR W 50 (.int .i64 L.length) (c + (Nm.pt s).length) F (Nm.pt s) v w') : InsR w b c F L L w' := by
  obtain ⟨F', y, _, hy, ht, hG, hk, hn⟩ := hg
  have hl := (is_len (h.ok s hs)).2
  refine ⟨c + (Nm.pt s).length, F', by omega, ⟨ht, ?_, ?_, h.sorted, h.ok, by omega, h.lb⟩, (Kp.of_below (O := own F) hW).trans hk fun _ _ h => h, fun i hi => (hn i hi).imp_right fun h1 => Nat.le_trans hW.size h1⟩
  · obtain ⟨n, h1, h2⟩ := h.root
    obtain ⟨n', h3, h4⟩ := hG.same [] n h1
    exact ⟨n', h3, h4.trans h2⟩
  · exact (h.of.more (grown_more hG ((h.of.is_leaf s).2 hs))).congr fun t => ⟨fun h1 => (List.mem_cons.1 h1).elim (fun e => e ▸ hs) (fun h => h), List.mem_cons_of_mem _⟩
/-- It was not there: its leaf is set, and it is counted. -/
theorem ins_new {w W w3 w' : World} {b c : Nat} {F : Ns} {L : List (List UInt8)} {s : List UInt8} (h : At_ w b c F L) (hW : Below w.heap.size w W) (hs : s ∉ L) (hi : Nm.is s = true) (hc : c + 20 ≤ 1048576) (hlb : L.length + 1 ≤ 1048576) {F' : Ns} {y : Nd} (hy : F' (Nm.pt s) = some y)
    (ht : Tree w3 50 (.int .i64 L.length) (c + (Nm.pt s).length) F') (hG : Grown F F' (Nm.pt s)) (hk : Kp (own F) W w3) (hn : ∀ i, own F' i → own F i ∨ W.heap.size ≤ i)
    (hw : w' = (w3.setCell ⟨y.b, 1, none⟩ (.bool true)).setCell ⟨b, 1, none⟩ (.int .i64 ((L.length : Int) + 1))) : InsR w b c F L (ins L s) w' := by
  have hl := (is_len hi).2
  obtain ⟨n, h1, h2⟩ := h.root
  obtain ⟨n', h3, h4⟩ := hG.same [] n h1
  have hbn : n'.b = b := h4.trans h2
  have hyo : own F' y.b := ⟨_, y, hy, .inl rfl⟩
  have hno : own F' b := ⟨_, n', h3, .inl hbn.symm⟩
  have hyb : y.b ≠ b := fun e => Nm.pt_ne s (ht.inj _ _ _ _ hy h3 (e.trans hbn.symm))
  have hbl := ht.node _ _ hy
  rw [nodeC_ne (Nm.pt_ne s)] at hbl
  have ht1 : Tree (w3.setCell ⟨y.b, 1, none⟩ (.bool true)) 50 (.int .i64 L.length) (c + (Nm.pt s).length) (setF F' (Nm.pt s) (some ⟨y.b, y.mb, true⟩)) :=
    ht.turn hy rfl (by rw [nodeC_ne (Nm.pt_ne s), put_heap hbl]; rfl) (fun i _ hne => Below.heap_setCell w3 ⟨y.b, 1, none⟩ _ i hne) ((ht.map _ _ hy).keep fun m hm => Below.heap_setCell w3 ⟨y.b, 1, none⟩ _ m (Ne.symm (ht.apart hy hy hm))) (.inl rfl)
  have hn1 : setF F' (Nm.pt s) (some ⟨y.b, y.mb, true⟩) [] = some n' := by rw [setF_other _ _ (Ne.symm (Nm.pt_ne s))]; exact h3
  have hbr := ht1.node _ _ hn1
  have hbr' : (w3.setCell ⟨y.b, 1, none⟩ (.bool true)).heap[n'.b]? = some (.cells #[.map n'.mb, .int .i64 L.length] 50 (0, 0)) := hbr
  have hlen : ((ins L s).length : Int) = (L.length : Int) + 1 := by unfold ins; rw [put_len]; omega
  have ht2 : Tree w' 50 (.int .i64 (ins L s).length) (c + (Nm.pt s).length) (setF F' (Nm.pt s) (some ⟨y.b, y.mb, true⟩)) :=
    ht1.count hn1 (by
      rw [hw, ← hbn, put_heap hbr', hlen]
      rfl) (fun i _ hne => by rw [hw]; exact Below.heap_setCell _ ⟨b, 1, none⟩ _ i (by rw [← hbn]; exact hne))
  have hown : ∀ i, own (setF F' (Nm.pt s) (some ⟨y.b, y.mb, true⟩)) i → own F i ∨ W.heap.size ≤ i := by
    intro i hi
    rcases own_setF hi with ⟨z, hz, h9⟩ | hi
    · obtain rfl := Option.some.inj hz
      exact hn i ⟨_, y, hy, h9⟩
    · exact hn i hi
  refine ⟨_, _, by omega, ⟨ht2, ⟨n', hn1, hbn⟩, ?_, ins_sorted h.sorted hs, fun t ht => ((mem_ins L s t).1 ht).elim (fun e => e ▸ hi) (h.ok t), by omega, by unfold ins; rw [put_len]; exact hlb⟩, ?_, fun i hi => (hown i hi).imp_right fun h1 => Nat.le_trans hW.size h1⟩
  · exact (h.of.more (grown_leaf hG hy)).congr fun t => by rw [mem_ins, List.mem_cons]
  · have hk2 : Kp (own F') w3 w' := by
      rw [hw]
      exact ((Kp.refl _ w3).setCell ⟨y.b, 1, none⟩ (.inr hyo) _).setCell ⟨b, 1, none⟩ (.inr hno) _
    refine ((Kp.of_below (O := own F) hW).trans hk fun _ _ h => h).trans hk2 fun i hi ho => ?_
    rcases hn i ho with h5 | h5
    · exact h5
    · have := hW.size; omega
/-- What Remove leaves. -/
def RemR (w : World) (b c : Nat) (F : Ns) (L' : List (List UInt8)) (w' : World) : Prop := ∃ F', At_ w' b c F' L' ∧ Kp (own F) w w' ∧ ∀ i, own F' i → own F i
theorem rem_end {w W w3 w' : World} {b c : Nat} {F : Ns} {L : List (List UInt8)} {s : List UInt8} (h : At_ w b c F L) (hW : Below w.heap.size w W) (hs : s ∈ L) (hg : CutR W 50 (.int .i64 L.length) c F [] (Nm.pt s) w3)
    (hw : w' = w3.setCell ⟨b, 1, none⟩ (.int .i64 ((L.length : Int) - 1))) : RemR w b c F (L.erase s) w' := by
  obtain ⟨F', ht, hP, hk, hn⟩ := hg
  obtain ⟨n, h1, h2⟩ := h.root
  have hroot : F' [] ≠ none := (hP.dom _).2 ⟨h.of.root, .inl fun h => h.2 rfl⟩
  obtain ⟨n', h3⟩ := Option.ne_none_iff_exists'.1 hroot
  obtain ⟨n0, h4, h5, _⟩ := hP.same _ _ h3
  rw [h1] at h4
  obtain rfl := Option.some.inj h4
  have hbn : n'.b = b := h5.symm.trans h2
  have hbr' : w3.heap[n'.b]? = some (.cells #[.map n'.mb, .int .i64 L.length] 50 (0, 0)) := ht.node _ _ h3
  have hnd := nodup_of RN.irr h.sorted
  have hpos := List.length_pos_of_mem hs
  have hlen : ((L.erase s).length : Int) = (L.length : Int) - 1 := by rw [List.length_erase_of_mem hs]; omega
  have ht2 : Tree w' 50 (.int .i64 (L.erase s).length) c F' := ht.count h3 (by
      rw [hw, ← hbn, put_heap hbr', hlen]
      rfl) (fun i _ hne => by rw [hw]; exact Below.heap_setCell _ ⟨b, 1, none⟩ _ i (by rw [← hbn]; exact hne))
  have hmem : ∀ t, t ∈ L.erase s ↔ t ∈ L ∧ t ≠ s := fun t => by rw [hnd.mem_erase_iff]; exact And.comm
  refine ⟨F', ⟨ht2, ⟨n', h3, hbn⟩, ?_, h.sorted.sublist List.erase_sublist, fun t ht => h.ok t ((hmem t).1 ht).1, h.cb, by rw [List.length_erase_of_mem hs]; have := h.lb; omega⟩, ?_, hn⟩
  · refine h.of.less ⟨fun x => ?_, hP.leaf⟩ hmem
    rw [hP.dom]
    refine and_congr_right fun _ => ?_
    constructor
    · rintro (h6 | h6)
      · by_cases e : x = []
        · exact .inl e
        · exact absurd ⟨List.nil_prefix, e⟩ h6
      · exact .inr h6
    · rintro (h6 | h6)
      · exact .inl fun h7 => h7.2 h6
      · exact .inr h6
  · rw [hw]
    exact ((Kp.of_below (O := own F) hW).trans hk fun _ _ h => h).setCell ⟨b, 1, none⟩ (.inr ⟨[], n, h1, .inl h2.symm⟩) _
theorem At_.live {w : World} {b c : Nat} {F : Ns} {L : List (List UInt8)} (h : At_ w b c F L) : Live F := fun x hx hf => by
  obtain ⟨s, hs, hp⟩ := h.of.live x hx hf
  exact ⟨_, (h.of.is_leaf s).2 hs, hp⟩
theorem At_.klen {w : World} {b c : Nat} {F : Ns} {L : List (List UInt8)} (_ : At_ w b c F L) {s : List UInt8} (hi : Nm.is s = true) : ∀ k ∈ Nm.pt s, k.length ≤ 1048576 := fun k hk => by
  have := Nm.pt_part_len s k hk
  have := (is_len hi).1
  omega
end Tr
end Go.Proofs.YtfmbbhcjnidcbaaGreatDoor

namespace Go.Proofs.YtfmbbhcjnidcbaaGreatDoor
open Go.RowKit
open Me

set_option maxRecDepth 100000 in
set_option maxHeartbeats 1000000 in
theorem Has_any {w : World} {b c : Nat} {F : Tr.Ns} {L : List (List UInt8)} (h : Tr.At_ w b c F L) (s : List UInt8) (hl : s.length ≤ 4294967270) (hm : Mx w) :
    Calls Tryz.prog 13 #[.pointer (some ⟨b, 0, none⟩), .string ⟨s.toArray⟩] w fun e w' => e = .returned (.bool (decide (s ∈ L))) ∧ Below w.heap.size w w' := by
  have HIs := Lib.hid (is_any s (by omega) w hm)
  by_cases hi : Nm.is s = true
  · obtain ⟨n, hn, rfl⟩ := h.root
    have HPt : Hid (∀ W, Below w.heap.size w W → Calls Tryz.prog 21 #[.string ⟨s.toArray⟩] W fun e w' => ∃ v, e = .returned v ∧ OwnS W.heap.size w' v (Nm.pt s) ∧ Below W.heap.size W w') := Lib.hid fun W hW => parts_any s (by omega) W (hm.below hW)
    have HRe : Hid (∀ W base g cap, Below w.heap.size w W → OwnS base W (.slice (some ⟨g, 0, none⟩) (Nm.pt s).length cap) (Nm.pt s) → Calls Tryz.prog 32 #[.pointer (some ⟨n.b, 0, none⟩), .slice (some ⟨g, 0, none⟩) (Nm.pt s).length cap] W fun e w' => e = .returned (Tr.ptr ((F (Nm.pt s)).map (·.b))) ∧ Below W.heap.size W w') := Lib.hid fun W base g cap hW ho => by
      obtain ⟨h1, h2⟩ := h
      rcases ho.2 with ⟨h0, _⟩ | ⟨g', cap', cur, h0, _, _, hnc, hcm, _⟩
      · cases h0
      · simp only [Value.slice.injEq, Option.some.injEq, Addr.mk.injEq, and_true, true_and] at h0
        obtain ⟨rfl, rfl⟩ := h0
        have hl2 := (Tr.is_len hi).2
        have h5 := reach_any (F := F) (Nm.pt s) [] n g 0 cap W (h1.below hW) hn (Nm.pt_ne s) (fun k hk => by
          have := Nm.pt_part_len s k hk
          have := (Tr.is_len hi).1
          omega) (Tr.RowS.of_own ho) hnc
        exact h5
    have hpos : 0 < (Nm.pt s).length := List.length_pos_iff.2 (Nm.pt_ne s)
    have hlf : ∀ y, F (Nm.pt s) = some y → y.lf = decide (s ∈ L) := fun y hy => by
      have := h.of.is_leaf s
      rw [Tr.isLeaf_of hy] at this
      cases e : y.lf
      · rw [e] at this
        exact (decide_eq_false (fun h => by have := this.2 h; cases this)).symm
      · rw [e] at this
        exact (decide_eq_true (this.1 rfl)).symm
    have HLf : Hid (∀ y, F (Nm.pt s) = some y → ∀ W, Below w.heap.size w W → W.cell? ⟨y.b, 1, none⟩ = some (.bool (decide (s ∈ L)))) := Lib.hid fun y hy W hW => by
      rw [← hlf y hy]; exact ((h.tree.below hW).leafc hy (Nm.pt_ne s)).1
    have HNo : Hid (F (Nm.pt s) = none → decide (s ∈ L) = false) := Lib.hid fun e => decide_eq_false fun hs => (Tr.isLeaf_in ((h.of.is_leaf s).2 hs)) e
    rw [hi] at HIs
    clear h hn hi hlf hm
    generalize decide (s ∈ L) = R at *
    generalize n.b = nb at *
    generalize hF : F (Nm.pt s) = o at *
    clear hF
    generalize Nm.pt s = p at *
    cases o with
    | none =>
      have hR := HNo.out rfl
      simp only [Option.map_none, Tr.ptr] at HRe
      subst hR
      clear HLf HNo
      go_enter Tryz.func13, Tryz.ntmps13
      go_wp2_with (go_at_call 19; go_must (refine HIs.out.mono ?_; rintro e w1 ⟨rfl, hb1⟩))
      go_region_law (first
        | (go_simp; go_at_call 21; refine (HPt.out _ hb1.drew).mono ?_; rintro e w2 ⟨v, rfl, ho2, hb2⟩; obtain ⟨g, cap, rfl⟩ := OwnS.form ho2 hpos; have hB2 := hb1.trans ((Below.refl _ w1).drew.trans hb2 |>.mono hb1.size))
        | (go_simp; go_at_call 32; refine (HRe.out _ _ _ _ hB2 ho2).mono ?_; rintro e w3 ⟨rfl, hb3⟩; have hB3 := hB2.trans (hb3.mono hB2.size)))
      all_goals
        go_wp2_with fail
        go_ret
        exact ⟨rfl, hB3⟩
    | some y =>
      have HLy := Lib.hid (HLf.out y rfl)
      simp only [Option.map_some, Tr.ptr] at HRe
      clear HLf HNo
      generalize y.b = yb at *
      go_enter Tryz.func13, Tryz.ntmps13
      go_wp2_with (go_at_call 19; go_must (refine HIs.out.mono ?_; rintro e w1 ⟨rfl, hb1⟩))
      go_region_law (first
        | (go_simp; go_at_call 21; refine (HPt.out _ hb1.drew).mono ?_; rintro e w2 ⟨v, rfl, ho2, hb2⟩; obtain ⟨g, cap, rfl⟩ := OwnS.form ho2 hpos; have hB2 := hb1.trans ((Below.refl _ w1).drew.trans hb2 |>.mono hb1.size))
        | (go_simp; go_at_call 32; refine (HRe.out _ _ _ _ hB2 ho2).mono ?_; rintro e w3 ⟨rfl, hb3⟩; have hB3 := hB2.trans (hb3.mono hB2.size); have hy3 := HLy.out w3 hB3))
      all_goals
        go_wp2_with fail
        go_ret
        exact ⟨rfl, hB3⟩
  · have hi' : Nm.is s = false := by simpa using hi
    have hR : decide (s ∈ L) = false := decide_eq_false fun hs => hi (h.ok s hs)
    rw [hi'] at HIs
    rw [hR]
    clear h hm hi hi' hR
    go_enter Tryz.func13, Tryz.ntmps13
    go_wp2_with (go_at_call 19; go_must (refine HIs.out.mono ?_; rintro e w1 ⟨rfl, hb1⟩))
    go_ret
    exact ⟨rfl, hb1⟩
end Go.Proofs.YtfmbbhcjnidcbaaGreatDoor

namespace Go.Proofs.YtfmbbhcjnidcbaaGreatDoor
open Go.RowKit
open Me

namespace Tr
theorem own_cap {base : Nat} {W : World} {g m cap : Nat} {l : List (List UInt8)} (ho : OwnS base W (.slice (some ⟨g, 0, none⟩) m cap) l) : l.length ≤ cap := by
  have h1 := ho
  rcases ho.2 with ⟨h0, _⟩ | ⟨g', cap', cur, h0, _, _, hnc, hcm, _⟩
  · cases h0
  · simp only [Value.slice.injEq, Option.some.injEq, Addr.mk.injEq, and_true] at h0
    obtain ⟨_, _, rfl⟩ := h0
    exact hnc
end Tr

set_option maxRecDepth 100000 in
set_option maxHeartbeats 1000000 in
theorem Insert_any {w : World} {b c : Nat} {F : Tr.Ns} {L : List (List UInt8)} (h : Tr.At_ w b c F L) (hc : c + 20 ≤ 1048576) (hlb : L.length + 1 ≤ 1048576) (s : List UInt8) (hl : s.length ≤ 4294967270) (hm : Mx w) :
    Calls Tryz.prog 6 #[.pointer (some ⟨b, 0, none⟩), .string ⟨s.toArray⟩] w fun e w' => e = .returned (.int .i64 (if Nm.is s = true then 0 else 14)) ∧ Tr.InsR w b c F L (Tr.insV L s) w' := by
  have HIs := Lib.hid (is_any s (by omega) w hm)
  by_cases hi : Nm.is s = true
  · obtain ⟨n, hn, hnb⟩ := h.root
    have HPt : Hid (∀ W, Below w.heap.size w W → Calls Tryz.prog 21 #[.string ⟨s.toArray⟩] W fun e w' => ∃ v, e = .returned v ∧ OwnS W.heap.size w' v (Nm.pt s) ∧ Below W.heap.size W w') := Lib.hid fun W hW => parts_any s (by omega) W (hm.below hW)
    have HGr : Hid (∀ W base g cap, Below w.heap.size w W → w.heap.size ≤ base → OwnS base W (.slice (some ⟨g, 0, none⟩) (Nm.pt s).length cap) (Nm.pt s) → Calls Tryz.prog 20 #[.pointer (some ⟨b, 0, none⟩), .slice (some ⟨g, 0, none⟩) (Nm.pt s).length cap] W fun e w' => ∃ v, e = .returned v ∧ Tr.GrowR W 50 (.int .i64 L.length) (c + (Nm.pt s).length) F (Nm.pt s) v w') := Lib.hid fun W base g cap hW hbs ho => by
      have h5 := grow_any (F := F) (Nm.pt s) [] n c g 0 cap W (h.tree.below hW) hn (Nm.pt_ne s) (h.klen hi) (Tr.RowS.of_own ho) (fun hO => by
        have h6 : base ≤ g := (Tr.own_at ho rfl).1
        have h7 := h.tree.lt hO
        omega) (Tr.own_cap ho) (by have := (Tr.is_len hi).2; omega)
      rw [hnb] at h5
      exact h5
    have hpos : 0 < (Nm.pt s).length := List.length_pos_iff.2 (Nm.pt_ne s)
    have hz : (if Nm.is s = true then (0 : Int) else 14) = 0 := if_pos hi
    have hbw : b < w.heap.size := by rw [← hnb]; exact (h.tree.cell hn).2.2
    rw [hz]
    by_cases hs : s ∈ L
    · have hv : Tr.insV L s = L := by unfold Tr.insV; rw [if_pos hi, if_pos hs]
      rw [hv]
      have HE : Hid (∀ W w3 v, Below w.heap.size w W → Tr.GrowR W 50 (.int .i64 L.length) (c + (Nm.pt s).length) F (Nm.pt s) v w3 → ∃ yb, v = .pointer (some ⟨yb, 0, none⟩) ∧ w3.cell? ⟨yb, 1, none⟩ = some (.bool true) ∧ Tr.InsR w b c F L L w3) := Lib.hid fun W w3 v hW hg => by
        obtain ⟨F', y, hv, hy, ht, hG, hk, hn'⟩ := id hg
        refine ⟨y.b, hv, ?_, Tr.ins_there h hW hs hc hg⟩
        have h9 := (ht.leafc hy (Nm.pt_ne s)).1
        have h10 : y.lf = true := by rw [← Tr.isLeaf_of hy, hG.leaf]; exact (h.of.is_leaf s).2 hs
        rw [h10] at h9
        exact h9
      rw [hi] at HIs
      clear hi hm hn hnb hz hv hlb hc
      generalize Nm.pt s = p at *
      generalize (Value.int IntKind.i64 (L.length : Int)) = X at *
      have HH := Lib.hid h
      clear h
      go_enter Tryz.func6, Tryz.ntmps6
      go_wp2_with (go_at_call 19; go_must (refine HIs.out.mono ?_; rintro e w1 ⟨rfl, hb1⟩))
      have hb1s := hb1.size
      go_region_law (first
        | (go_simp; go_at_call 21; refine (HPt.out _ hb1.drew).mono ?_; rintro e w2 ⟨v, rfl, ho2, hb2⟩; obtain ⟨g, cap, rfl⟩ := OwnS.form ho2 hpos; have hB2 := hb1.trans ((Below.refl _ w1).drew.trans hb2 |>.mono hb1.size))
        | (go_simp; go_at_call 20; refine (HGr.out _ _ _ _ hB2 hb1s ho2).mono ?_; rintro e w3 ⟨v3, rfl, hg3⟩; obtain ⟨yb, rfl, hy3, hi3⟩ := HE.out _ _ _ hB2 hg3; have HR := Lib.hid hi3; clear hg3 hi3))
      all_goals
        go_wp2_with fail
        go_ret
        exact ⟨rfl, HR.out⟩
    · have hv : Tr.insV L s = Tr.ins L s := by unfold Tr.insV; rw [if_pos hi, if_neg hs]
      rw [hv]
      have HE : Hid (∀ W w3 v, Below w.heap.size w W → Tr.GrowR W 50 (.int .i64 L.length) (c + (Nm.pt s).length) F (Nm.pt s) v w3 → ∃ yb, v = .pointer (some ⟨yb, 0, none⟩) ∧ w3.cell? ⟨yb, 1, none⟩ = some (.bool false) ∧ w3.frozen? ⟨yb, 1, none⟩ = false ∧ yb ≠ b ∧ w3.cell? ⟨b, 1, none⟩ = some (.int .i64 L.length) ∧ w3.frozen? ⟨b, 1, none⟩ = false ∧ ∀ w', w' = (w3.setCell ⟨yb, 1, none⟩ (.bool true)).setCell ⟨b, 1, none⟩ (.int .i64 ((L.length : Int) + 1)) → Tr.InsR w b c F L (Tr.ins L s) w') := Lib.hid fun W w3 v hW hg => by
        obtain ⟨F', y, hv, hy, ht, hG, hk, hn'⟩ := id hg
        obtain ⟨h9, h8⟩ := ht.leafc hy (Nm.pt_ne s)
        have h10 : y.lf = false := by
          rw [← Tr.isLeaf_of hy, hG.leaf]
          cases e : Tr.isLeaf F (Nm.pt s) with
          | false => rfl
          | true => exact absurd ((h.of.is_leaf s).1 e) hs
        rw [h10] at h9
        obtain ⟨n', h3, h4⟩ := hG.same [] n hn
        have hbr : w3.heap[n'.b]? = some (.cells #[.map n'.mb, .int .i64 L.length] 50 (0, 0)) := ht.node _ _ h3
        have hbn : n'.b = b := h4.trans hnb
        rw [hbn] at hbr
        refine ⟨y.b, hv, h9, h8, fun e => Nm.pt_ne s (ht.inj _ _ _ _ hy h3 (e.trans hbn.symm)), by rw [cell_of_row w3 b 1 _ _ _ hbr]; rfl, frozen_of_row w3 b 1 _ _ hbr, fun w' hw => Tr.ins_new h hW hs hi hc hlb hy ht hG hk hn' hw⟩
      rw [hi] at HIs
      have hadd : IntKind.i64.wrap ((L.length : Int) + 1) = (L.length : Int) + 1 := IntWalk.i64_in _ (by omega)
      clear hi hm hn hnb hz hv hc hs
      generalize Nm.pt s = p at *
      have HH := Lib.hid h
      clear h
      go_enter Tryz.func6, Tryz.ntmps6
      go_wp2_with (go_at_call 19; go_must (refine HIs.out.mono ?_; rintro e w1 ⟨rfl, hb1⟩))
      have hb1s := hb1.size
      go_region_law (first
        | (go_simp; go_at_call 21; refine (HPt.out _ hb1.drew).mono ?_; rintro e w2 ⟨v, rfl, ho2, hb2⟩; obtain ⟨g, cap, rfl⟩ := OwnS.form ho2 hpos; have hB2 := hb1.trans ((Below.refl _ w1).drew.trans hb2 |>.mono hb1.size))
        | (go_simp; go_at_call 20; refine (HGr.out _ _ _ _ hB2 hb1s ho2).mono ?_; rintro e w3 ⟨v3, rfl, hg3⟩; obtain ⟨yb, rfl, hy3, hyf, hyn, hc3, hf3, hi3⟩ := HE.out _ _ _ hB2 hg3; have HR := Lib.hid hi3; clear hg3 hi3))
      all_goals
        go_wp2_with fail
        go_ret
        exact ⟨rfl, HR.out _ rfl⟩
  · have hi' : Nm.is s = false := by simpa using hi
    have hv : Tr.insV L s = L := by unfold Tr.insV; rw [if_neg hi]
    have hz : (if Nm.is s = true then (0 : Int) else 14) = 14 := if_neg hi
    rw [hi'] at HIs
    rw [hv, hz]
    have HH := Lib.hid h
    clear h hm hi hi' hv hz
    go_enter Tryz.func6, Tryz.ntmps6
    go_wp2_with (go_at_call 19; go_must (refine HIs.out.mono ?_; rintro e w1 ⟨rfl, hb1⟩))
    go_ret
    exact ⟨rfl, Tr.InsR.same HH.out hb1⟩

set_option maxHeartbeats 1000000 in
theorem Len_any {w : World} {b c : Nat} {F : Tr.Ns} {L : List (List UInt8)} (h : Tr.At_ w b c F L) :
    Calls Tryz.prog 15 #[.pointer (some ⟨b, 0, none⟩)] w fun e w' => e = .returned (.int .i64 L.length) ∧ Below w.heap.size w w' := by
  obtain ⟨n, hn, rfl⟩ := h.root
  have hbr : w.heap[n.b]? = some (.cells #[.map n.mb, .int .i64 L.length] 50 (0, 0)) := h.tree.node _ _ hn
  have hc : w.cell? ⟨n.b, 1, none⟩ = some (.int .i64 L.length) := by rw [cell_of_row w n.b 1 _ _ _ hbr]; rfl
  clear h hn hbr
  generalize n.b = nb at *
  go_enter Tryz.func15, Tryz.ntmps15
  go_wp2_with fail
  go_ret
  exact ⟨rfl, Below.refl _ _⟩

set_option maxRecDepth 100000 in
set_option maxHeartbeats 1000000 in
theorem Remove_any {w : World} {b c : Nat} {F : Tr.Ns} {L : List (List UInt8)} (h : Tr.At_ w b c F L) (s : List UInt8) (hl : s.length ≤ 4294967270) (hm : Mx w) :
    Calls Tryz.prog 8 #[.pointer (some ⟨b, 0, none⟩), .string ⟨s.toArray⟩] w fun e w' => e = .returned (.bool (decide (s ∈ L))) ∧ Tr.RemR w b c F (L.erase s) w' := by
  have HHas := Lib.hid (Has_any h s hl hm)
  by_cases hs : s ∈ L
  · have hi := h.ok s hs
    obtain ⟨n, hn, hnb⟩ := h.root
    have HPt : Hid (∀ W, Below w.heap.size w W → Calls Tryz.prog 21 #[.string ⟨s.toArray⟩] W fun e w' => ∃ v, e = .returned v ∧ OwnS W.heap.size w' v (Nm.pt s) ∧ Below W.heap.size W w') := Lib.hid fun W hW => parts_any s (by omega) W (hm.below hW)
    have HCu : Hid (∀ W base g cap, Below w.heap.size w W → w.heap.size ≤ base → OwnS base W (.slice (some ⟨g, 0, none⟩) (Nm.pt s).length cap) (Nm.pt s) → Calls Tryz.prog 24 #[.pointer (some ⟨b, 0, none⟩), .slice (some ⟨g, 0, none⟩) (Nm.pt s).length cap] W fun e w3 => e = .returned (.tuple #[]) ∧ w3.cell? ⟨b, 1, none⟩ = some (.int .i64 L.length) ∧ w3.frozen? ⟨b, 1, none⟩ = false ∧ ∀ w', w' = w3.setCell ⟨b, 1, none⟩ (.int .i64 ((L.length : Int) - 1)) → Tr.RemR w b c F (L.erase s) w') := Lib.hid fun W base g cap hW hbs ho => by
      have h5 := cut_any (T0 := 50) (x0 := .int .i64 L.length) (by have := h.cb; omega) h.live (Nm.pt s) [] n g 0 cap W (h.tree.below hW) hn (Nm.pt_ne s) (h.of.there hs (List.prefix_refl _)) (h.klen hi) (Tr.RowS.of_own ho) (fun hO => by
        have h6 : base ≤ g := (Tr.own_at ho rfl).1
        have h7 := h.tree.lt hO
        omega) (Tr.own_cap ho)
      rw [hnb] at h5
      refine h5.mono fun e w3 hp => ⟨hp.1, ?_⟩
      obtain ⟨F', ht, hP, hk, hn'⟩ := id hp.2
      have hroot : F' [] ≠ none := (hP.dom _).2 ⟨h.of.root, .inl fun h => h.2 rfl⟩
      obtain ⟨n', h3⟩ := Option.ne_none_iff_exists'.1 hroot
      obtain ⟨n0, h4, h6, _⟩ := hP.same _ _ h3
      rw [hn] at h4
      obtain rfl := Option.some.inj h4
      have hbr : w3.heap[n'.b]? = some (.cells #[.map n'.mb, .int .i64 L.length] 50 (0, 0)) := ht.node _ _ h3
      rw [← h6, hnb] at hbr
      exact ⟨by rw [cell_of_row w3 b 1 _ _ _ hbr]; rfl, frozen_of_row w3 b 1 _ _ hbr, fun w' hw => Tr.rem_end h hW hs hp.2 hw⟩
    have hpos : 0 < (Nm.pt s).length := List.length_pos_iff.2 (Nm.pt_ne s)
    have hlb := h.lb
    have hsub : IntKind.i64.wrap ((L.length : Int) - 1) = (L.length : Int) - 1 := IntWalk.i64_in _ (by omega)
    have hR : decide (s ∈ L) = true := decide_eq_true hs
    rw [hR] at HHas ⊢
    clear h hi hs hn hnb hm hR
    generalize Nm.pt s = p at *
    generalize L.erase s = L2 at *
    go_enter Tryz.func8, Tryz.ntmps8
    go_wp2_with (go_at_call 13; go_must (refine HHas.out.mono ?_; rintro e w1 ⟨rfl, hb1⟩))
    have hb1s := hb1.size
    go_region_law (first
      | (go_simp; go_at_call 21; refine (HPt.out _ hb1.drew).mono ?_; rintro e w2 ⟨v, rfl, ho2, hb2⟩; obtain ⟨g, cap, rfl⟩ := OwnS.form ho2 hpos; have hB2 := hb1.trans ((Below.refl _ w1).drew.trans hb2 |>.mono hb1.size))
      | (go_simp; go_at_call 24; refine (HCu.out _ _ _ _ hB2 hb1s ho2).mono ?_; rintro e w3 ⟨rfl, hc3, hf3, hr3⟩; have HR := Lib.hid hr3; clear hr3))
    all_goals
      go_wp2_with fail
      go_ret
      exact ⟨rfl, HR.out _ rfl⟩
  · have hR : decide (s ∈ L) = false := decide_eq_false hs
    have he : L.erase s = L := List.erase_of_not_mem hs
    rw [hR] at HHas ⊢
    rw [he]
    have HH := Lib.hid h
    clear h hs hR he hm
    go_enter Tryz.func8, Tryz.ntmps8
    go_wp2_with (go_at_call 13; go_must (refine HHas.out.mono ?_; rintro e w1 ⟨rfl, hb1⟩))
    go_ret
    exact ⟨rfl, F, HH.out.below hb1, Kp.of_below hb1, fun _ h => h⟩
end Go.Proofs.YtfmbbhcjnidcbaaGreatDoor
