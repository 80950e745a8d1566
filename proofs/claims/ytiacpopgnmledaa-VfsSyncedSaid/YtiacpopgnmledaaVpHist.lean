/-
  THE PLAIN MATHEMATICS of files: each act of the program's, and what it leaves to be undone.
-/
import Derived.Test.YtiacpopgnmledaaVpPure
namespace Go.Proofs.Ytiacpopgnmledaa
namespace Vp
open Vf

theorem undo_one {c : Co} {o : Op} (h : o.kind = 1) (m : Int) : c.undo o m = c.drop o.on := by unfold Co.undo; rw [if_pos h]
theorem undo_two {c : Co} {o : Op} (h : o.kind = 2) (m : Int) : c.undo o m = c.over o.on (o.at_ + stay o m) (o.old.drop (stay o m)) := by
  unfold Co.undo
  rw [if_neg (by omega), if_pos h]
theorem undo_three {c : Co} {o : Op} (h : o.kind = 3) (m : Int) : c.undo o m = c.put o.on := by
  unfold Co.undo
  rw [if_neg (by omega), if_neg (by omega)]
theorem undo_other {c : Co} {o : Op} (h : o.kind ≠ 2) (m : Int) : c.undo o m = c.undo o 0 := by
  unfold Co.undo
  by_cases h1 : o.kind = 1
  · rw [if_pos h1, if_pos h1]
  · rw [if_neg h1, if_neg h1, if_neg h, if_neg h]

theorem Hist.create {was : List Fl} {I : Nat → Prop} {c : Co} {j : List Op} {l : List Ac} (h : Hist was c j l) (hL : Live I c j) {n b : List UInt8} {id : Nat} (hn : c.map n = none) (hid : ¬ I id) :
    Hist was ((c.lay id ⟨n, b⟩).put id) (⟨1, id, 0, []⟩ :: j) (⟨1, n, 0, b⟩ :: l) := by
  refine .snoc ?_ ?_ rfl (.inl rfl) (fun hk => absurd (show (1 : Int) = 2 from hk) (by decide)) (fun hk => absurd (show (1 : Int) = 2 from hk) (by decide))
  · rw [rep_append]
    exact h.view.make hn (fun m i e e2 => hid (e2 ▸ hL.1 m i e))
  · rw [undo_one rfl]
    have e : ((c.lay id ⟨n, b⟩).put id).drop id = ⟨c.map, setS c.sto id ⟨n, b⟩, c.used⟩ := by
      have e0 : (c.lay id ⟨n, b⟩).sto id = ⟨n, b⟩ := setS_same _ _ _
      have e1 : ((c.lay id ⟨n, b⟩).put id).sto id = ⟨n, b⟩ := e0
      unfold Co.drop
      rw [e1]
      have e2 : ((c.lay id ⟨n, b⟩).put id).map = setM c.map n (some id) := by show setM c.map ((c.lay id ⟨n, b⟩).sto id).name (some id) = _; rw [e0]
      have e3 : ((c.lay id ⟨n, b⟩).put id).used = c.used + (b.length : Int) := by show c.used + (((c.lay id ⟨n, b⟩).sto id).b.length : Int) = _; rw [e0]
      rw [e2, e3]
      have e4 : setM (setM c.map n (some id)) n none = c.map := setM_back _ _ _ _ hn
      show (⟨setM (setM c.map n (some id)) n none, _, _⟩ : Co) = _
      rw [e4]
      congr 1
      show c.used + (b.length : Int) - (b.length : Int) = _
      omega
    show Hist was (((c.lay id ⟨n, b⟩).put id).drop id) j l
    rw [e]
    refine h.agree hL (fun i hi => ?_)
    unfold setS
    rw [if_neg (show ¬ i = id from fun e2 => hid (e2 ▸ hi))]

theorem take_drop_len {b : List UInt8} {o n : Nat} (h : o + n ≤ b.length) : ((b.drop o).take n).length = n := by rw [List.length_take, List.length_drop]; omega
theorem over_over (c : Co) (id o : Nat) (b : List UInt8) (o2 : Nat) (b2 : List UInt8) : (c.over id o b).over id o2 b2 = c.lay id ⟨(c.sto id).name, upd (upd (c.sto id).b o b) o2 b2⟩ := by
  have h0 : (c.over id o b).sto id = ⟨(c.sto id).name, upd (c.sto id).b o b⟩ := setS_same _ _ _
  unfold Co.over at h0 ⊢
  rw [h0]
  unfold Co.lay
  simp only
  rw [setS_twice]
theorem lay_same (c : Co) (id : Nat) : c.lay id ⟨(c.sto id).name, (c.sto id).b⟩ = c := by
  unfold Co.lay
  have : setS c.sto id ⟨(c.sto id).name, (c.sto id).b⟩ = c.sto := by
    funext x
    unfold setS
    by_cases e : x = id
    · rw [if_pos e, e]
    · rw [if_neg e]
  rw [this]
theorem Hist.write {was : List Fl} {c : Co} {j : List Op} {l : List Ac} (h : Hist was c j l) {n b : List UInt8} {o id : Nat} (hn : c.map n = some id) (hf : o + b.length ≤ (c.sto id).b.length) :
    Hist was (c.over id o b) (⟨2, id, o, ((c.sto id).b.drop o).take b.length⟩ :: j) (⟨2, n, o, b⟩ :: l) := by
  have hlen := take_drop_len hf
  have h0 : (c.over id o b).sto id = ⟨(c.sto id).name, upd (c.sto id).b o b⟩ := setS_same _ _ _
  have key : ∀ m : Int, (c.over id o b).undo ⟨2, id, o, ((c.sto id).b.drop o).take b.length⟩ m = c.over id o (b.take (stay ⟨2, id, o, ((c.sto id).b.drop o).take b.length⟩ m)) := fun m => by
    rw [undo_two rfl]
    have hs : stay ⟨2, id, o, ((c.sto id).b.drop o).take b.length⟩ m ≤ b.length := by unfold stay; simp only [hlen]; omega
    show (c.over id o b).over id (o + _) ((((c.sto id).b.drop o).take b.length).drop _) = _
    rw [over_over, upd_back hf hs]
    rfl
  refine .snoc ?_ ?_ rfl (.inr (.inl rfl)) (fun _ => ⟨?_, hlen⟩) (fun _ m => ?_)
  · rw [rep_append]
    exact h.view.over hn hf
  · rw [key 0]
    have e : stay ⟨2, id, o, ((c.sto id).b.drop o).take b.length⟩ 0 = 0 := by unfold stay; omega
    rw [e, List.take_zero]
    have e2 : c.over id o [] = c := by unfold Co.over; rw [upd_nil, lay_same]
    rw [e2]
    exact h
  · show o + (((c.sto id).b.drop o).take b.length).length ≤ ((c.over id o b).sto id).b.length
    rw [h0, hlen]
    show _ ≤ (upd (c.sto id).b o b).length
    rw [upd_len hf]
    exact hf
  · rw [key m]
    have e : stay ⟨2, id, o, ((c.sto id).b.drop o).take b.length⟩ m = torn ⟨2, n, o, b⟩ m := by unfold stay torn; simp only [hlen]; omega
    rw [e]
    have hl : (b.take (torn ⟨2, n, o, b⟩ m)).length ≤ b.length := by rw [List.length_take]; omega
    exact h.view.over hn (by omega)

theorem Hist.remove {was : List Fl} {c : Co} {j : List Op} {l : List Ac} (h : Hist was c j l) {n : List UInt8} {id : Nat} (hn : c.map n = some id) :
    Hist was (c.drop id) (⟨3, id, 0, []⟩ :: j) (⟨3, n, 0, []⟩ :: l) := by
  refine .snoc ?_ ?_ rfl (.inr (.inr rfl)) (fun hk => absurd (show (3 : Int) = 2 from hk) (by decide)) (fun hk => absurd (show (3 : Int) = 2 from hk) (by decide))
  · rw [rep_append]
    exact h.view.drop hn 0 []
  · rw [undo_three rfl]
    have hnm := h.view.name n id hn
    have e : (c.drop id).put id = c := by
      unfold Co.put Co.drop
      simp only [hnm]
      rw [setM_back _ _ _ _ hn]
      have : c.used - ((c.sto id).b.length : Int) + ((c.sto id).b.length : Int) = c.used := by omega
      rw [this]
    show Hist was ((c.drop id).put id) j l
    rw [e]
    exact h

/-- On the way of a crash: either there is more to undo, or it is as the document says. -/
def Cr (S : Sv) (n m : Int) (c : Co) (j : List Op) : Prop := ∃ l, j.length = l.length ∧ l.reverse = S.l.take l.length ∧ (n.toNat < j.length → Hist S.was c j l) ∧ (j.length ≤ n.toNat → View c (crash S n m))
theorem Cr.start {S : Sv} {c : Co} {j : List Op} (h : Hist S.was c j S.l.reverse) (n m : Int) : Cr S n m c j := by
  have hl := h.len
  refine ⟨S.l.reverse, hl, ?_, fun _ => h, fun hn => ?_⟩
  · rw [List.reverse_reverse, List.length_reverse, List.take_length]
  · rw [crash_all (by rw [List.length_reverse] at hl; omega)]
    have := h.view
    rwa [List.reverse_reverse] at this
theorem Cr.step {S : Sv} {n m : Int} {c : Co} {o : Op} {j : List Op} (h : Cr S n m c (o :: j)) (hn : n.toNat < (o :: j).length) : Cr S n m (c.undo o (if j.length = n.toNat then m else 0)) j := by
  obtain ⟨l, h1, h2, h3, _⟩ := h
  have hh := h3 hn
  cases hh with
  | @snoc _ _ l' _ a g1 g2 g3 g4 g5 g6 =>
    rw [List.reverse_cons] at h2
    simp only [List.length_cons] at h1 h2 hn
    have hlS : l'.length + 1 ≤ S.l.length := by
      have := congrArg List.length h2
      rw [List.length_append, List.length_reverse, List.length_singleton, List.length_take] at this
      omega
    have hlt : l'.length < S.l.length := by omega
    rw [List.take_succ_eq_append_getElem hlt] at h2
    obtain ⟨e1, e2⟩ := List.append_inj h2 (by rw [List.length_reverse, List.length_take]; omega)
    have ea : a = S.l[l'.length] := by simpa using e2
    refine ⟨l', by omega, e1, fun hj => ?_, fun hj => ?_⟩
    · rw [if_neg (by omega)]
      exact g2
    · have hjn : j.length = n.toNat := by omega
      rw [if_pos hjn]
      have hk : n.toNat = l'.length := by omega
      by_cases hk2 : o.kind = 2
      · rw [crash_torn hk hlt (by rw [← ea, ← g3]; exact hk2)]
        have := g6 hk2 m
        rw [e1, ea] at this
        exact this
      · rw [crash_clean hk hlt (by rw [← ea, ← g3]; exact hk2), undo_other hk2, ← e1]
        exact g2.view
/-- What is undone next is fit for it. -/
theorem Cr.fit {S : Sv} {n m : Int} {c : Co} {o : Op} {j : List Op} (h : Cr S n m c (o :: j)) (hn : n.toNat < (o :: j).length) : (o.kind = 1 ∨ o.kind = 2 ∨ o.kind = 3) ∧ (o.kind = 2 → o.at_ + o.old.length ≤ (c.sto o.on).b.length) := by
  obtain ⟨l, h1, h2, h3, _⟩ := h
  have hh := h3 hn
  cases hh with
  | snoc g1 g2 g3 g4 g5 g6 => exact ⟨g4, fun hk => (g5 hk).1⟩
theorem Cr.done {S : Sv} {n m : Int} {c : Co} {j : List Op} (h : Cr S n m c j) (hn : j.length ≤ n.toNat) : View c (crash S n m) := by
  obtain ⟨l, _, _, _, h4⟩ := h
  exact h4 hn

/-! what is answered -/
theorem create_bad {S : Sv} {n b : List UInt8} (hi : is n = false) : Vf.create S n b = (S, 1) := by unfold Vf.create; rw [if_pos hi]
theorem create_has {S : Sv} {c : Co} {n b : List UInt8} {id : Nat} (hv : View c S.now) (hi : is n = true) (hn : c.map n = some id) : Vf.create S n b = (S, 6) := by
  have := (ix_some (hv.some_ hn)).1
  unfold Vf.create
  rw [if_neg (by simp [hi]), if_pos (by omega)]
theorem create_full {S : Sv} {c : Co} {n b : List UInt8} (hv : View c S.now) (hi : is n = true) (hn : c.map n = none) (hb : S.room - c.used < b.length) : Vf.create S n b = (S, 4) := by
  have := ix_none (hv.none_ hn)
  unfold Vf.create
  rw [if_neg (by simp [hi]), if_neg (by omega), if_pos (by rw [← hv.used]; exact hb)]
theorem create_ok {S : Sv} {c : Co} {n b : List UInt8} (hv : View c S.now) (hi : is n = true) (hn : c.map n = none) (hb : ¬ S.room - c.used < b.length) : Vf.create S n b = (S.act ⟨1, n, 0, b⟩, 0) := by
  have := ix_none (hv.none_ hn)
  unfold Vf.create
  rw [if_neg (by simp [hi]), if_neg (by omega), if_neg (by rw [← hv.used]; exact hb)]
theorem lenAt_some {l : List Fl} {n b : List UInt8} (h : look l n = some b) : lenAt l n = b.length := by
  have := (ix_some h).2
  unfold bytesAt at this
  unfold lenAt
  rw [this]
theorem write_bad {S : Sv} {n b : List UInt8} {t : Int} (hi : is n = false) : Vf.write S n t b = (S, 1) := by unfold Vf.write; rw [if_pos hi]
theorem write_none {S : Sv} {c : Co} {n b : List UInt8} {t : Int} (hv : View c S.now) (hi : is n = true) (hn : c.map n = none) : Vf.write S n t b = (S, 5) := by
  have := ix_none (hv.none_ hn)
  unfold Vf.write
  rw [if_neg (by simp [hi]), if_pos (by omega)]
theorem write_off {S : Sv} {c : Co} {n b : List UInt8} {t : Int} {id : Nat} (hv : View c S.now) (hi : is n = true) (hn : c.map n = some id) (hb : t < 0 ∨ ((c.sto id).b.length : Int) - t < b.length) : Vf.write S n t b = (S, 1) := by
  have h1 := (ix_some (hv.some_ hn)).1
  have h2 := lenAt_some (hv.some_ hn)
  unfold Vf.write
  rw [if_neg (by simp [hi]), if_neg h1, if_pos (by rw [h2]; omega)]
theorem write_ok {S : Sv} {c : Co} {n b : List UInt8} {t : Nat} {id : Nat} (hv : View c S.now) (hi : is n = true) (hn : c.map n = some id) (hb : t + b.length ≤ (c.sto id).b.length) : Vf.write S n (t : Int) b = (S.act ⟨2, n, t, b⟩, 0) := by
  have h1 := (ix_some (hv.some_ hn)).1
  have h2 := lenAt_some (hv.some_ hn)
  unfold Vf.write
  rw [if_neg (by simp [hi]), if_neg h1, if_neg (by rw [h2]; omega)]
  simp
theorem remove_bad {S : Sv} {n : List UInt8} (hi : is n = false) : Vf.remove S n = (S, 1) := by unfold Vf.remove; rw [if_pos hi]
theorem remove_none {S : Sv} {c : Co} {n : List UInt8} (hv : View c S.now) (hi : is n = true) (hn : c.map n = none) : Vf.remove S n = (S, 5) := by
  have := ix_none (hv.none_ hn)
  unfold Vf.remove
  rw [if_neg (by simp [hi]), if_pos (by omega)]
theorem remove_ok {S : Sv} {c : Co} {n : List UInt8} {id : Nat} (hv : View c S.now) (hi : is n = true) (hn : c.map n = some id) : Vf.remove S n = (S.act ⟨3, n, 0, []⟩, 0) := by
  have h1 := (ix_some (hv.some_ hn)).1
  unfold Vf.remove
  rw [if_neg (by simp [hi]), if_neg h1]
theorem read_bad {l : List Fl} {n : List UInt8} {t m : Int} (hi : is n = false) : Vf.read l n t m = ([], 1) := by unfold Vf.read; rw [if_pos hi]
theorem read_none {l : List Fl} {c : Co} {n : List UInt8} {t m : Int} (hv : View c l) (hi : is n = true) (hn : c.map n = none) : Vf.read l n t m = ([], 5) := by
  have := ix_none (hv.none_ hn)
  unfold Vf.read
  rw [if_neg (by simp [hi]), if_pos (by omega)]
theorem read_off {l : List Fl} {c : Co} {n : List UInt8} {t m : Int} {id : Nat} (hv : View c l) (hi : is n = true) (hn : c.map n = some id) (hb : t < 0 ∨ m < 0 ∨ ((c.sto id).b.length : Int) - t < m) : Vf.read l n t m = ([], 1) := by
  obtain ⟨h1, h2⟩ := ix_some (hv.some_ hn)
  unfold Vf.read
  rw [if_neg (by simp [hi]), if_neg h1, if_pos (by rw [h2]; omega)]
theorem read_ok {l : List Fl} {c : Co} {n : List UInt8} {t m : Nat} {id : Nat} (hv : View c l) (hi : is n = true) (hn : c.map n = some id) (hb : t + m ≤ (c.sto id).b.length) : Vf.read l n (t : Int) (m : Int) = ((((c.sto id).b).drop t).take m, 0) := by
  obtain ⟨h1, h2⟩ := ix_some (hv.some_ hn)
  unfold Vf.read
  rw [if_neg (by simp [hi]), if_neg h1, if_neg (by rw [h2]; omega), h2]
  simp
theorem size_bad {l : List Fl} {n : List UInt8} (hi : is n = false) : Vf.size l n = (0, 1) := by unfold Vf.size; rw [if_pos hi]
theorem size_none {l : List Fl} {c : Co} {n : List UInt8} (hv : View c l) (hi : is n = true) (hn : c.map n = none) : Vf.size l n = (0, 5) := by
  have := ix_none (hv.none_ hn)
  unfold Vf.size
  rw [if_neg (by simp [hi]), if_pos (by omega)]
theorem size_ok {l : List Fl} {c : Co} {n : List UInt8} {id : Nat} (hv : View c l) (hi : is n = true) (hn : c.map n = some id) : Vf.size l n = (((c.sto id).b.length : Int), 0) := by
  obtain ⟨h1, h2⟩ := ix_some (hv.some_ hn)
  unfold bytesAt at h2
  unfold Vf.size
  rw [if_neg (by simp [hi]), if_neg h1, h2]
end Vp
end Go.Proofs.Ytiacpopgnmledaa
