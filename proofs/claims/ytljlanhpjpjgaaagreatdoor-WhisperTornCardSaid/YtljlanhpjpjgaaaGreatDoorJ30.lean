/- VpHist VpLib VpFill VpMap -/
import Derived.Test.YtljlanhpjpjgaaaGreatDoorJ1
import Derived.Test.YtljlanhpjpjgaaaGreatDoorJ29
import Derived.Laws.CopyOwn
import Derived.Laws.MakeOwn
import Derived.Deep.OwnRows
import Derived.Test.YtljlanhpjpjgaaaGreatDoorShelf
import Derived.Lib.LazyBuf
import Derived.Maps.OwnSet
import Derived.Maps.OwnOps
import Derived.RegionTactic
namespace Go.Proofs.YtljlanhpjpjgaaaGreatDoor
set_option maxRecDepth 100000
set_option maxHeartbeats 8000000
section
namespace Vp
open Vf
theorem undo_one {c : Co} {o : Op} (h : o.kind = 1) (m : Int) : c.undo o m = c.drop o.on := by unfold Co.undo; rw [if_pos h]
theorem undo_two {c : Co} {o : Op} (h : o.kind = 2) (m : Int) : c.undo o m = c.over o.on (o.at_ + stay o m) (o.old.drop (stay o m)) := by
 unfold Co.undo
 rw [if_neg (by omega), if_pos h]
theorem undo_three {c : Co} {o : Op} (h : o.kind = 3) (m : Int) : c.undo o m = c.put o.on := by
 unfold Co.undo
 rw [if_neg (by omega), if_neg (by omega)]
theorem undo_other {c : Co} {o : Op} (h : o.kind ≠ 2) (m : Int) : c.undo o m = c.undo o 0 := by
 unfold Co.undo
 by_cases h1 : o.kind = 1
 ·rw [if_pos h1, if_pos h1]
 ·rw [if_neg h1, if_neg h1, if_neg h, if_neg h]
theorem Hist.create {was : List Fl} {I : Nat → Prop} {c : Co} {j : List Op} {l : List Ac} (h : Hist was c j l) (hL : Live I c j) {n b : List UInt8} {id : Nat} (hn : c.map n = none) (hid : ¬ I id) :
 Hist was ((c.lay id ⟨n, b⟩).put id) (⟨1, id, 0, []⟩ :: j) (⟨1, n, 0, b⟩ :: l) := by
 refine .snoc ?_ ?_ rfl (.inl rfl) (fun hk => absurd (show (1 : Int) = 2 from hk) (by decide)) (fun hk => absurd (show (1 : Int) = 2 from hk) (by decide))
 ·rw [rep_append]
  exact h.view.make hn (fun m i e e2 => hid (e2 ▸ hL.1 m i e))
 ·rw [undo_one rfl]
  have e : ((c.lay id ⟨n, b⟩).put id).drop id = ⟨c.map, setS c.sto id ⟨n, b⟩, c.used⟩ := by
   have e0 : (c.lay id ⟨n, b⟩).sto id = ⟨n, b⟩ := setS_same _ _ _
   have e1 : ((c.lay id ⟨n, b⟩).put id).sto id = ⟨n, b⟩ := e0
   unfold Co.drop
   rw [e1]
   have e2 : ((c.lay id ⟨n, b⟩).put id).map = setM c.map n (some id) := by show setM c.map ((c.lay id ⟨n, b⟩).sto id).name (some id) = _; rw [e0]
   have e3 : ((c.lay id ⟨n, b⟩).put id).used = c.used + (b.length : Int) := by show c.used + (((c.lay id ⟨n, b⟩).sto id).b.length : Int) = _; rw [e0]
   rw [e2, e3]
   have e4 : setM (setM c.map n (some id)) n none = c.map := setM_back _ _ _ _ hn
   show (⟨setM (setM c.map n (some id)) n none, _, _⟩ : Co) = _
   rw [e4]
   congr 1
   show c.used + (b.length : Int) - (b.length : Int) = _
   omega
  show Hist was (((c.lay id ⟨n, b⟩).put id).drop id) j l
  rw [e]
  refine h.agree hL (fun i hi => ?_)
  unfold setS
  rw [if_neg (show ¬ i = id from fun e2 => hid (e2 ▸ hi))]
theorem take_drop_len {b : List UInt8} {o n : Nat} (h : o + n ≤ b.length) : ((b.drop o).take n).length = n := by rw [List.length_take, List.length_drop]; omega
theorem over_over (c : Co) (id o : Nat) (b : List UInt8) (o2 : Nat) (b2 : List UInt8) : (c.over id o b).over id o2 b2 = c.lay id ⟨(c.sto id).name, upd (upd (c.sto id).b o b) o2 b2⟩ := by
 have h0 : (c.over id o b).sto id = ⟨(c.sto id).name, upd (c.sto id).b o b⟩ := setS_same _ _ _
 unfold Co.over at h0 ⊢
 rw [h0]
 unfold Co.lay
 simp only
 rw [setS_twice]
theorem lay_same (c : Co) (id : Nat) : c.lay id ⟨(c.sto id).name, (c.sto id).b⟩ = c := by
 unfold Co.lay
 have : setS c.sto id ⟨(c.sto id).name, (c.sto id).b⟩ = c.sto := by
  funext x
  unfold setS
  by_cases e : x = id
  ·rw [if_pos e, e]
  ·rw [if_neg e]
 rw [this]
theorem Hist.write {was : List Fl} {c : Co} {j : List Op} {l : List Ac} (h : Hist was c j l) {n b : List UInt8} {o id : Nat} (hn : c.map n = some id) (hf : o + b.length ≤ (c.sto id).b.length) :
 Hist was (c.over id o b) (⟨2, id, o, ((c.sto id).b.drop o).take b.length⟩ :: j) (⟨2, n, o, b⟩ :: l) := by
 have hlen := take_drop_len hf
 have h0 : (c.over id o b).sto id = ⟨(c.sto id).name, upd (c.sto id).b o b⟩ := setS_same _ _ _
 have key : ∀ m : Int, (c.over id o b).undo ⟨2, id, o, ((c.sto id).b.drop o).take b.length⟩ m = c.over id o (b.take (stay ⟨2, id, o, ((c.sto id).b.drop o).take b.length⟩ m)) := fun m => by
  rw [undo_two rfl]
  have hs : stay ⟨2, id, o, ((c.sto id).b.drop o).take b.length⟩ m ≤ b.length := by unfold stay; simp only [hlen]; omega
  show (c.over id o b).over id (o + _) ((((c.sto id).b.drop o).take b.length).drop _) = _
  rw [over_over, upd_back hf hs]
  rfl
 refine .snoc ?_ ?_ rfl (.inr (.inl rfl)) (fun _ => ⟨?_, hlen⟩) (fun _ m => ?_)
 ·rw [rep_append]
  exact h.view.over hn hf
 ·rw [key 0]
  have e : stay ⟨2, id, o, ((c.sto id).b.drop o).take b.length⟩ 0 = 0 := by unfold stay; omega
  rw [e, List.take_zero]
  have e2 : c.over id o [] = c := by unfold Co.over; rw [upd_nil, lay_same]
  rw [e2]
  exact h
 ·show o + (((c.sto id).b.drop o).take b.length).length ≤ ((c.over id o b).sto id).b.length
  rw [h0, hlen]
  show _ ≤ (upd (c.sto id).b o b).length
  rw [upd_len hf]
  exact hf
 ·rw [key m]
  have e : stay ⟨2, id, o, ((c.sto id).b.drop o).take b.length⟩ m = torn ⟨2, n, o, b⟩ m := by unfold stay torn; simp only [hlen]; omega
  rw [e]
  have hl : (b.take (torn ⟨2, n, o, b⟩ m)).length ≤ b.length := by rw [List.length_take]; omega
  exact h.view.over hn (by omega)
def Cr (S : Sv) (n m : Int) (c : Co) (j : List Op) : Prop := ∃ l, j.length = l.length ∧ l.reverse = S.l.take l.length ∧ (n.toNat < j.length → Hist S.was c j l) ∧ (j.length ≤ n.toNat → View c (crash S n m))
theorem Cr.start {S : Sv} {c : Co} {j : List Op} (h : Hist S.was c j S.l.reverse) (n m : Int) : Cr S n m c j := by
 have hl := h.len
 refine ⟨S.l.reverse, hl, ?_, fun _ => h, fun hn => ?_⟩
 ·rw [List.reverse_reverse, List.length_reverse, List.take_length]
 ·rw [crash_all (by rw [List.length_reverse] at hl; omega)]
  have := h.view
  rwa [List.reverse_reverse] at this
theorem Cr.step {S : Sv} {n m : Int} {c : Co} {o : Op} {j : List Op} (h : Cr S n m c (o :: j)) (hn : n.toNat < (o :: j).length) : Cr S n m (c.undo o (if j.length = n.toNat then m else 0)) j := by
 obtain ⟨l, h1, h2, h3, _⟩ := h
 have hh := h3 hn
 cases hh with
 | @snoc _ _ l' _ a g1 g2 g3 g4 g5 g6 =>
   rw [List.reverse_cons] at h2
   simp only [List.length_cons] at h1 h2 hn
   have hlS : l'.length + 1 ≤ S.l.length := by
    have := congrArg List.length h2
    rw [List.length_append, List.length_reverse, List.length_singleton, List.length_take] at this
    omega
   have hlt : l'.length < S.l.length := by omega
   rw [List.take_succ_eq_append_getElem hlt] at h2
   obtain ⟨e1, e2⟩ := List.append_inj h2 (by rw [List.length_reverse, List.length_take]; omega)
   have ea : a = S.l[l'.length] := by simpa using e2
   refine ⟨l', by omega, e1, fun hj => ?_, fun hj => ?_⟩
   ·rw [if_neg (by omega)]
    exact g2
   ·have hjn : j.length = n.toNat := by omega
    rw [if_pos hjn]
    have hk : n.toNat = l'.length := by omega
    by_cases hk2 : o.kind = 2
    ·rw [crash_torn hk hlt (by rw [← ea, ← g3]; exact hk2)]
     have := g6 hk2 m
     rw [e1, ea] at this
     exact this
    ·rw [crash_clean hk hlt (by rw [← ea, ← g3]; exact hk2), undo_other hk2, ← e1]
     exact g2.view
theorem Cr.fit {S : Sv} {n m : Int} {c : Co} {o : Op} {j : List Op} (h : Cr S n m c (o :: j)) (hn : n.toNat < (o :: j).length) : (o.kind = 1 ∨ o.kind = 2 ∨ o.kind = 3) ∧ (o.kind = 2 → o.at_ + o.old.length ≤ (c.sto o.on).b.length) := by
 obtain ⟨l, h1, h2, h3, _⟩ := h
 have hh := h3 hn
 cases hh with
 | snoc g1 g2 g3 g4 g5 g6 => exact ⟨g4, fun hk => (g5 hk).1⟩
theorem Cr.done {S : Sv} {n m : Int} {c : Co} {j : List Op} (h : Cr S n m c j) (hn : j.length ≤ n.toNat) : View c (crash S n m) := by
 obtain ⟨l, _, _, _, h4⟩ := h
 exact h4 hn
theorem create_bad {S : Sv} {n b : List UInt8} (hi : is n = false) : Vf.create S n b = (S, 1) := by unfold Vf.create; rw [if_pos hi]
theorem create_has {S : Sv} {c : Co} {n b : List UInt8} {id : Nat} (hv : View c S.now) (hi : is n = true) (hn : c.map n = some id) : Vf.create S n b = (S, 6) := by
 have := (ix_some (hv.some_ hn)).1
 unfold Vf.create
 rw [if_neg (by simp [hi]), if_pos (by omega)]
theorem create_full {S : Sv} {c : Co} {n b : List UInt8} (hv : View c S.now) (hi : is n = true) (hn : c.map n = none) (hb : S.room - c.used < b.length) : Vf.create S n b = (S, 4) := by
 have := ix_none (hv.none_ hn)
 unfold Vf.create
 rw [if_neg (by simp [hi]), if_neg (by omega), if_pos (by rw [← hv.used]; exact hb)]
theorem create_ok {S : Sv} {c : Co} {n b : List UInt8} (hv : View c S.now) (hi : is n = true) (hn : c.map n = none) (hb : ¬ S.room - c.used < b.length) : Vf.create S n b = (S.act ⟨1, n, 0, b⟩, 0) := by
 have := ix_none (hv.none_ hn)
 unfold Vf.create
 rw [if_neg (by simp [hi]), if_neg (by omega), if_neg (by rw [← hv.used]; exact hb)]
theorem lenAt_some {l : List Fl} {n b : List UInt8} (h : look l n = some b) : lenAt l n = b.length := by
 have := (ix_some h).2
 unfold bytesAt at this
 unfold lenAt
 rw [this]
theorem write_bad {S : Sv} {n b : List UInt8} {t : Int} (hi : is n = false) : Vf.write S n t b = (S, 1) := by unfold Vf.write; rw [if_pos hi]
theorem write_none {S : Sv} {c : Co} {n b : List UInt8} {t : Int} (hv : View c S.now) (hi : is n = true) (hn : c.map n = none) : Vf.write S n t b = (S, 5) := by
 have := ix_none (hv.none_ hn)
 unfold Vf.write
 rw [if_neg (by simp [hi]), if_pos (by omega)]
theorem write_off {S : Sv} {c : Co} {n b : List UInt8} {t : Int} {id : Nat} (hv : View c S.now) (hi : is n = true) (hn : c.map n = some id) (hb : t < 0 ∨ ((c.sto id).b.length : Int) - t < b.length) : Vf.write S n t b = (S, 1) := by
 have h1 := (ix_some (hv.some_ hn)).1
 have h2 := lenAt_some (hv.some_ hn)
 unfold Vf.write
 rw [if_neg (by simp [hi]), if_neg h1, if_pos (by rw [h2]; omega)]
theorem write_ok {S : Sv} {c : Co} {n b : List UInt8} {t : Nat} {id : Nat} (hv : View c S.now) (hi : is n = true) (hn : c.map n = some id) (hb : t + b.length ≤ (c.sto id).b.length) : Vf.write S n (t : Int) b = (S.act ⟨2, n, t, b⟩, 0) := by
 have h1 := (ix_some (hv.some_ hn)).1
 have h2 := lenAt_some (hv.some_ hn)
 unfold Vf.write
 rw [if_neg (by simp [hi]), if_neg h1, if_neg (by rw [h2]; omega)]
 simp
theorem read_bad {l : List Fl} {n : List UInt8} {t m : Int} (hi : is n = false) : Vf.read l n t m = ([], 1) := by unfold Vf.read; rw [if_pos hi]
theorem read_none {l : List Fl} {c : Co} {n : List UInt8} {t m : Int} (hv : View c l) (hi : is n = true) (hn : c.map n = none) : Vf.read l n t m = ([], 5) := by
 have := ix_none (hv.none_ hn)
 unfold Vf.read
 rw [if_neg (by simp [hi]), if_pos (by omega)]
theorem read_off {l : List Fl} {c : Co} {n : List UInt8} {t m : Int} {id : Nat} (hv : View c l) (hi : is n = true) (hn : c.map n = some id) (hb : t < 0 ∨ m < 0 ∨ ((c.sto id).b.length : Int) - t < m) : Vf.read l n t m = ([], 1) := by
 obtain ⟨h1, h2⟩ := ix_some (hv.some_ hn)
 unfold Vf.read
 rw [if_neg (by simp [hi]), if_neg h1, if_pos (by rw [h2]; omega)]
theorem read_ok {l : List Fl} {c : Co} {n : List UInt8} {t m : Nat} {id : Nat} (hv : View c l) (hi : is n = true) (hn : c.map n = some id) (hb : t + m ≤ (c.sto id).b.length) : Vf.read l n (t : Int) (m : Int) = ((((c.sto id).b).drop t).take m, 0) := by
 obtain ⟨h1, h2⟩ := ix_some (hv.some_ hn)
 unfold Vf.read
 rw [if_neg (by simp [hi]), if_neg h1, if_neg (by rw [h2]; omega), h2]
 simp
theorem size_bad {l : List Fl} {n : List UInt8} (hi : is n = false) : Vf.size l n = (0, 1) := by unfold Vf.size; rw [if_pos hi]
theorem size_none {l : List Fl} {c : Co} {n : List UInt8} (hv : View c l) (hi : is n = true) (hn : c.map n = none) : Vf.size l n = (0, 5) := by
 have := ix_none (hv.none_ hn)
 unfold Vf.size
 rw [if_neg (by simp [hi]), if_pos (by omega)]
theorem size_ok {l : List Fl} {c : Co} {n : List UInt8} {id : Nat} (hv : View c l) (hi : is n = true) (hn : c.map n = some id) : Vf.size l n = (((c.sto id).b.length : Int), 0) := by
 obtain ⟨h1, h2⟩ := ix_some (hv.some_ hn)
 unfold bytesAt at h2
 unfold Vf.size
 rw [if_neg (by simp [hi]), if_neg h1, h2]
end Vp
end
section
open Go.RowKit
open Me Vf
namespace Me
theorem by8_upd (b : List UInt8) (o : Nat) (p : List UInt8) : by8 (upd b o p) = (by8 b).take o ++ (by8 p ++ (by8 b).drop (o + (by8 p).length)) := by
 unfold upd by8
 simp [List.map_take, List.map_drop]
theorem Kp.setRow {O : Nat → Prop} {a w : World} (h : Kp O a w) (g : Nat) (hg : a.heap.size ≤ g ∨ O g) (cs : Array Value) : Kp O a (w.setRow g cs) :=
 ⟨h.os, h.tape, h.output, by simpa [World.setRow] using h.size, fun i hi hn => (setRow_other w g i cs (by
  rintro rfl
  rcases hg with hg | hg
  ·omega
  ·exact hn hg)).trans (h.block i hi hn)⟩
theorem row_size (w : World) (g : Nat) (cs : Array Value) : (w.setRow g cs).heap.size = w.heap.size := by simp [World.setRow]
section
variable {P : Program} {w : World}
theorem run_copy_bs (dT sT ty elem : TypeId) (hu : P.underlying dT = some (.slice elem)) (hsz : (P.info? elem).map (·.size) = some 1)
 (dp sp : Option Addr) (dLen dCap sLen sCap g off : Nat) (cur p : List UInt8) (t : TypeId) (hg : w.heap[g]? = some (.cells (by8 cur).toArray t (0, 0))) (hp : p.length = Nat.min sLen dLen)
 (hpos : 0 < p.length → dp = some ⟨g, off, none⟩) (G : Nat → Prop) (hr : Rd w G sp (by8 p)) (hfit : off + p.length ≤ cur.length) :
 ∃ w', (Builtin.copy_ #[dT, sT] ty #[.slice dp dLen dCap, .slice sp sLen sCap]).run P w = .ok (goInt p.length) w' ∧
  w'.heap[g]? = some (.cells (by8 (upd cur off p)).toArray t (0, 0)) ∧ Kp (fun b => b = g) w w' ∧ w'.heap.size = w.heap.size := by
 by_cases h0 : p.length = 0
 ·obtain rfl : p = [] := List.eq_nil_of_length_eq_zero h0
  refine ⟨w, run_copy_none (P := P) w dT sT ty elem dp sp dLen dCap sLen sCap hu hsz (by simpa using hp.symm), ?_, Kp.refl _ _, rfl⟩
  rw [Vp.upd_nil]
  exact hg
 ·obtain rfl := hpos (by omega)
  obtain ⟨ad, rfl, _, _, hc⟩ := hr (by intro e; apply h0; rw [← by8_len, e]; rfl)
  have hrun := run_copy_row (P := P) w dT sT ty elem g off dLen dCap ad sLen sCap (by8 cur).toArray t (by8 p) hu hsz hg (by rw [by8_len]; exact hp) hc (by simpa [by8_len] using hfit) (by8_one _)
  rw [by8_len] at hrun
  refine ⟨_, hrun, ?_, (Kp.refl (fun b => b = g) w).setRow g (.inr rfl) _, row_size _ _ _⟩
  rw [setRow_heap w g _ _ t _ hg, by8_upd, by8_len, List.append_assoc]
theorem wpList_copy_bs {ops : Array Oper} {rest : List Oper} {o : Oper} {a : Act} {Q : Exit → Act → World → Prop} (hgd : o.guard = none) (d s : Operand) (dT sT : TypeId)
 (ho : o.op = .call { callee := .builtin .copy, args := #[d, s], argTypes := #[dT, sT] }) (elem : TypeId) (hu : P.underlying dT = some (.slice elem)) (hsz : (P.info? elem).map (·.size) = some 1)
 (dp sp : Option Addr) (dLen dCap sLen sCap : Nat) (hd : a.eval d = .slice dp dLen dCap) (hs : a.eval s = .slice sp sLen sCap)
 (g off : Nat) (cur p : List UInt8) (t : TypeId) (hg : w.heap[g]? = some (.cells (by8 cur).toArray t (0, 0))) (hp : p.length = Nat.min sLen dLen)
 (hpos : 0 < p.length → dp = some ⟨g, off, none⟩) (G : Nat → Prop) (hr : Rd w G sp (by8 p)) (hfit : off + p.length ≤ cur.length)
 (h : ∀ w', Hid (w'.heap[g]? = some (.cells (by8 (upd cur off p)).toArray t (0, 0))) → Kp (fun b => b = g) w w' → Hid (w'.heap.size = w.heap.size) → wpList P ops Q rest (a.put o.dst (goInt p.length)) w') :
 wpList P ops Q (o :: rest) a w := by
 refine wpList_plain hgd fun K hK => ?_
 obtain ⟨w', hrun, h1, h2, h3⟩ := run_copy_bs (P := P) (w := w) dT sT o.type elem hu hsz dp sp dLen dCap sLen sCap g off cur p t hg hp hpos G hr hfit
 unfold Oper.wp
 simp [execOp, ho, resolve, invoke, builtin, hd, hs, hrun, Result.andThen]
 exact hK _ _ (h w' (Lib.hid h1) h2 (Lib.hid h3))
theorem wp_copy_bs {o : Oper} {a : Act} {K : Act → World → Prop} {Q : Exit → Act → World → Prop} (d s : Operand) (dT sT : TypeId)
 (ho : o.op = .call { callee := .builtin .copy, args := #[d, s], argTypes := #[dT, sT] }) (elem : TypeId) (hu : P.underlying dT = some (.slice elem)) (hsz : (P.info? elem).map (·.size) = some 1)
 (dp sp : Option Addr) (dLen dCap sLen sCap : Nat) (hd : a.eval d = .slice dp dLen dCap) (hs : a.eval s = .slice sp sLen sCap)
 (g off : Nat) (cur p : List UInt8) (t : TypeId) (hg : w.heap[g]? = some (.cells (by8 cur).toArray t (0, 0))) (hp : p.length = Nat.min sLen dLen)
 (hpos : 0 < p.length → dp = some ⟨g, off, none⟩) (G : Nat → Prop) (hr : Rd w G sp (by8 p)) (hfit : off + p.length ≤ cur.length)
 (h : ∀ w', Hid (w'.heap[g]? = some (.cells (by8 (upd cur off p)).toArray t (0, 0))) → Kp (fun b => b = g) w w' → Hid (w'.heap.size = w.heap.size) → K (a.put o.dst (goInt p.length)) w') :
 Oper.wp P o a w K Q := by
 obtain ⟨w', hrun, h1, h2, h3⟩ := run_copy_bs (P := P) (w := w) dT sT o.type elem hu hsz dp sp dLen dCap sLen sCap g off cur p t hg hp hpos G hr hfit
 unfold Oper.wp
 simp [execOp, ho, resolve, invoke, builtin, hd, hs, hrun, Result.andThen]
 exact h w' (Lib.hid h1) h2 (Lib.hid h3)
end
def noughts (n : Nat) : List UInt8 := List.replicate n 0
theorem noughts_len (n : Nat) : (noughts n).length = n := by simp [noughts]
theorem made_noughts (n : Nat) : madeCells #[.int .u8 0] n = (by8 (noughts n)).toArray := by
 apply Array.ext
 ·rw [size_madeCells]; simp [by8_len, noughts_len]
 ·intro i h1 h2
  simp [madeCells, by8, noughts, Nat.mod_one]
theorem upd_upd {cur a b : List UInt8} {off : Nat} (h : off + a.length + b.length ≤ cur.length) : upd (upd cur off a) (off + a.length) b = upd cur off (a ++ b) := by
 have h1 : (upd cur off a).take (off + a.length) = cur.take off ++ a := by
  unfold upd
  rw [List.take_append_of_le_length (by simp; omega)]
  exact List.take_of_length_le (by simp; omega)
 have h2 : (upd cur off a).drop (off + a.length + b.length) = cur.drop (off + (a ++ b).length) := by
  unfold upd
  rw [List.drop_append, List.drop_eq_nil_of_le (by simp; omega), List.nil_append, List.drop_drop]
  congr 1
  simp
  omega
 have h3 : upd (upd cur off a) (off + a.length) b = (upd cur off a).take (off + a.length) ++ b ++ (upd cur off a).drop (off + a.length + b.length) := rfl
 rw [h3, h1, h2]
 unfold upd
 simp
theorem upd_all {cur p : List UInt8} (h : p.length = cur.length) : upd cur 0 p = p := by
 unfold upd
 rw [List.drop_eq_nil_of_le (by omega)]
 simp
end Me
theorem make_bytes (n : Nat) (hn : n ≤ 4294967296) (W : World) : (Instr.makeSlice 45 (.int .i64 (n : Int)) (.int .i64 (n : Int))).run Tryz.prog W = .ok (.slice (some ⟨W.heap.size, 0, none⟩) n n) (W.alloc (.cells (by8 (noughts n)).toArray 5)) := by
 obtain ⟨i0, hi0, hz0, hz1, hz2⟩ := info_parts u8info
 have h := run_make (P := Tryz.prog) W 45 5 i0 (.int .u8 0) Tryz.underlying45 hi0 hz0 .i64 .i64 (n : Int) (n : Int) (by omega) (by omega) (by rw [hz2]; omega) (by omega)
 rw [hz1, show (Value.int .u8 0).cells = #[.int .u8 0] from rfl, Nat.mul_one, Int.toNat_natCast, made_noughts] at h
 exact h
theorem isName_any (n : List UInt8) (w : World) :
 Calls Tryz.prog 61 #[.string ⟨n.toArray⟩] w fun e w' => e = .returned (.bool (Vf.is n)) ∧ w = w' := by
 cases n with
 | nil =>
   go_enter Tryz.func61, Tryz.ntmps61
   go_wp2
   go_ret
   exact ⟨rfl, rfl⟩
 | cons x r =>
   by_cases h2 : ((x :: r).length : Int) ≤ 255
   ·have H : Hid (Vf.is (x :: r) = true) := Lib.hid (by unfold Vf.is; simp at h2 ⊢; omega)
    go_enter Tryz.func61, Tryz.ntmps61
    go_wp2
    go_ret
    exact ⟨ret_bool (by rw [H.out]; simp at h2 ⊢; try omega), rfl⟩
   ·have H : Hid (Vf.is (x :: r) = false) := Lib.hid (by unfold Vf.is; simp at h2 ⊢; omega)
    go_enter Tryz.func61, Tryz.ntmps61
    go_wp2
    go_ret
    exact ⟨ret_bool (by rw [H.out]; simp at h2 ⊢; try omega), rfl⟩
theorem length_any (ps : List (List UInt8)) (v : Value) (G : Nat → Prop) (w : World) (hp : Vf.Ps w G v ps) (hl : ps.length ≤ 1048576) (ht : ps.flatten.length ≤ 4294967296) :
 Calls Tryz.prog 62 #[v] w fun e w' => e = .returned (.int .i64 (ps.flatten.length : Int)) ∧ w = w' := by
 obtain ⟨A, c, xs, rfl, hc, hcm, hrd, hels⟩ := hp
 unfold maxLen at hcm
 have HR := Lib.hid hrd
 have HE := Lib.hid hels
 have hl' : (ps.length : Int) ≤ 1048576 := by omega
 generalize hT : ps.flatten.length = T at *
 have HT := Lib.hid hT
 clear hrd hels hT
 go_enter Tryz.func62, Tryz.ntmps62
 go_wp2_with fail
 go_loop [3, 8] (fun n i => ∃ (k : Nat) (x : Int), k ≤ ps.length ∧ i = .int .i64 k ∧ n = .int .i64 x ∧ 0 ≤ x ∧ x ≤ 4294967296 ∧ Hid (x = ((ps.take k).flatten.length : Int))) (fun _ i => ps.length - (intOf i).toNat)
 case atStart => exact ⟨0, 0, Nat.zero_le _, rfl, rfl, by omega, by omega, Lib.hid rfl⟩
 case round =>
  obtain ⟨k, x, hk, rfl, rfl, x0, x1, hx⟩ := hrel
  by_cases hlt : k < ps.length
  ·obtain ⟨cs, ⟨v, rfl, hbs⟩, hxx⟩ := HE.out.get Vf.BsC.one k hlt
   have hxl := HE.out.length Vf.BsC.one
   obtain ⟨rb, ro, rfl, hlt2, hg, hcell⟩ := HR.out.lit (k * 1) (by omega)
   obtain ⟨A2, cc, rfl, hc2, hcm2, hrd2⟩ := hbs
   have hcl2 : w.cell? ⟨rb, ro + k, none⟩ = some (.slice A2 (ps[k]).length cc) := by have := hcell _ _ (hxx 0 (by omega)); simpa using this
   have hs := Lib.hid (Vf.flat_take ps k hlt)
   have hle := Vf.flat_le ps (k + 1)
   have hb : x + (ps[k]).length ≤ 4294967296 := by have := hs.out; have := hx.out; have h2 := HT.out; rw [hs.out, List.length_append] at hle; omega
   clear hxx hxl hcell hrd2 hle
   generalize hm : (ps[k]).length = m at *
   have HM := Lib.hid hm
   clear hm
   go_wp2_with fail
   go_round
   case rel => exact ⟨k + 1, _, by omega, by go_num, rfl, by omega, by omega, Lib.hid (by rw [hs.out, List.length_append, HM.out]; have := hx.out; omega)⟩
   case measure => simp [intOf]; omega
  ·obtain rfl : k = ps.length := by omega
   rw [List.take_length] at hx
   go_wp2_with fail
   go_ret
   exact ⟨ret_i64 (by rw [hx.out, HT.out]), rfl⟩
end
section
open Go.RowKit
open Me Vf
theorem vsizeU8 : (Tryz.prog.info? 5).map (·.size) = some 1 := by kernel_rfl
def Vp.Filled (w : World) (db : Nat) (b : List UInt8) (e : Ending) (w' : World) : Prop :=
 e = .returned (.tuple #[]) ∧ w'.heap[db]? = some (.cells (by8 b).toArray 5 (0, 0)) ∧ Kp (fun b => b = db) w w' ∧ w'.heap.size = w.heap.size
theorem fill_any (ps : List (List UInt8)) (pv : Value) (G : Nat → Prop) (w : World) (db off n cc : Nat) (cur : List UInt8) (hdb : w.heap[db]? = some (.cells (by8 cur).toArray 5 (0, 0)))
 (hp : Vf.Ps w G pv ps) (hG : ∀ b, G b → b ≠ db) (hn : ps.flatten.length = n) (hoff : off + n ≤ cur.length) (hcc : n ≤ cc) (hcm : cc ≤ 4294967296) (hl : ps.length ≤ 1048576) :
 Calls Tryz.prog 64 #[.slice (some ⟨db, off, none⟩) n cc, pv] w (Vp.Filled w db (upd cur off ps.flatten)) := by
 obtain ⟨A, c, xs, rfl, hc, hcm', hrd, hels⟩ := hp
 unfold maxLen at hcm'
 have HR := Lib.hid hrd
 have HE := Lib.hid hels
 have HN := Lib.hid hn
 have HG := Lib.hid hG
 have hl' : (ps.length : Int) ≤ 1048576 := by omega
 have HD := Lib.hid hdb
 clear hrd hels hn hG hdb
 go_enter Tryz.func64, Tryz.ntmps64
 go_wp2_with fail
 go_loopw [0, 8] (fun pl i wr => ∃ (k o t r c : Nat), k ≤ ps.length ∧ i = .int .i64 k ∧ .slice (some ⟨db, o, none⟩) r c = pl ∧ t + r = n ∧ t + c = cc ∧ Hid (t = ((ps.take k).flatten).length) ∧ Hid (t < cc → o = off + t) ∧
  Hid (wr.heap[db]? = some (.cells (by8 (upd cur off (ps.take k).flatten)).toArray 5 (0, 0))) ∧ Kp (fun b => b = db) w wr ∧ Hid (wr.heap.size = w.heap.size)) (fun _ i _ => ps.length - (intOf i).toNat)
 case atStart => exact ⟨0, off, 0, n, cc, Nat.zero_le _, rfl, rfl, by omega, by omega, Lib.hid rfl, Lib.hid (fun _ => rfl), Lib.hid (by rw [List.take_zero, List.flatten_nil, Vp.upd_nil]; exact HD.out), Kp.refl _ _, Lib.hid rfl⟩
 case round =>
  obtain ⟨k, o, t, r, c, hk, rfl, rfl, htr, htc, ht, ho, hdb, hkp, hsz⟩ := hrel
  by_cases hlt : k < ps.length
  ·have hR := HR.out.kp hkp (fun i _ hi => HG.out i hi)
   have hE : Els (Vf.BsC wr G) ps xs := HE.out.mono fun b cs hb => hb.keep hkp.size (fun i hi hg => hkp.block i hi (HG.out i hg))
   obtain ⟨cs, ⟨v, rfl, hbs⟩, hx⟩ := hE.get Vf.BsC.one k hlt
   have hxl := hE.length Vf.BsC.one
   obtain ⟨rb, ro, rfl, hlt2, hg, hcell⟩ := hR.lit (k * 1) (by omega)
   have hcl : wr.cell? ⟨rb, ro + k, none⟩ = some v := by have := hcell _ _ (hx 0 (by omega)); simpa using this
   obtain ⟨A2, c2, rfl, hc2, hcm2, hrd2⟩ := hbs
   have HRD := Lib.hid hrd2
   have HF := Lib.hid (Vf.flat_take ps k hlt)
   have hle := Vf.flat_le ps (k + 1)
   rw [HF.out, List.length_append, HN.out, ← ht.out] at hle
   have hpk : t + (ps[k]).length ≤ n := hle
   have HU : Hid (upd (upd cur off (ps.take k).flatten) (off + t) ps[k] = upd cur off (ps.take (k + 1)).flatten) := Lib.hid (by rw [HF.out, ht.out]; exact upd_upd (by rw [← ht.out]; omega))
   have HL : Hid ((upd cur off (ps.take k).flatten).length = cur.length) := Lib.hid (upd_len (by rw [← ht.out]; omega))
   have HP : Hid (0 < (ps[k]).length → some (⟨db, o, none⟩ : Addr) = some ⟨db, off + t, none⟩) := Lib.hid (fun h => by rw [ho.out (by omega)])
   have HB : Hid (0 < (ps[k]).length → o = off + t) := Lib.hid (fun h => ho.out (by omega))
   have HT1 : Hid (t + (ps[k]).length = ((ps.take (k + 1)).flatten).length) := Lib.hid (by rw [HF.out, List.length_append, ← ht.out])
   unfold maxLen at hcm2
   clear hR hE hx hxl hcell hrd2 hle
   generalize hpp : ps[k] = p at *
   clear hpp
   have hpl : p.length ≤ r := by omega
   have hpc : p.length ≤ c := by omega
   have hmin : Hid (p.length = Nat.min p.length r) := Lib.hid (Nat.min_eq_left hpl).symm
   have hfit : Hid (off + t + p.length ≤ (upd cur off (ps.take k).flatten).length) := Lib.hid (by rw [HL.out]; omega)
   have hpl' : (p.length : Int) ≤ (r : Int) := by omega
   have hpc' : (p.length : Int) ≤ (c : Int) := by omega
   go_wp2_with (with_reducible refine wpList_copy_bs rfl (.tmp 13) (.tmp 14) 45 45 rfl 5 Tryz.underlying45 vsizeU8 (some ⟨db, o, none⟩) A2 r c p.length c2 rfl rfl db (off + t) _ p 5 hdb.out hmin.out HP.out G HRD.out hfit.out ?_; intro w1 hd1 hk1 hs1)
   all_goals
    go_roundw
    case rel =>
     refine ⟨k + 1, if c = p.length then o else o + p.length, t + p.length, r - p.length, c - p.length, by omega, by go_num, by split <;> rfl, by omega, by omega, HT1, Lib.hid (fun h => ?_), Lib.hid (by rw [← HU.out]; exact hd1.out), hkp.trans hk1 (fun i _ h => h), Lib.hid (hs1.out.trans hsz.out)⟩
     rw [if_neg (by omega)]
     by_cases h0 : 0 < p.length
     ·have := HB.out h0; omega
     ·have := ho.out (by omega); omega
    case measure => simp [intOf]; omega
  ·obtain rfl : k = ps.length := by omega
   rw [List.take_length] at hdb
   go_wp2_with fail
   ((try simp only [Exit.inBlock, Exit.then]); first | (refine bodyPost_ret (results_none rfl _ _ _) rfl ?_) | (refine bodyPost_end (results_none rfl _ _ _) rfl ?_))
   exact ⟨rfl, hdb.out, hkp, hsz.out⟩
theorem strClone_any (n : List UInt8) (w : World) (hn : n.length ≤ 1048576) :
 Calls Tryz.prog 63 #[.string ⟨n.toArray⟩] w fun e w' => e = .returned (.string ⟨n.toArray⟩) ∧ Below w.heap.size w w' := by
 have HC := Lib.hid (Tryz.stringslite_Clone ⟨n.toArray⟩ w (by show n.toArray.size ≤ _; simp; omega))
 go_enter Tryz.func63, Tryz.ntmps63
 go_wp2_with (go_at_call 97; ((with_reducible refine (HC.out).mono ?_); rintro e w' ⟨rfl, hb⟩))
 go_ret
 exact ⟨rfl, hb⟩
theorem slcClone_any (l : List UInt8) (g o c : Nat) (G : Nat → Prop) (w : World) (hr : Rd w G (some ⟨g, o, none⟩) (by8 l)) (hl : l.length ≤ 4294967296) :
 Calls Tryz.prog 79 #[.slice (some ⟨g, o, none⟩) l.length c] w (Vf.Made w l) := by
 obtain ⟨i0, hi0, hz0, hz1, hz2⟩ := info_parts u8info
 have HI := Lib.hid hi0
 have HZ := Lib.hid (And.intro hz0 (And.intro hz1 hz2))
 clear hi0 hz0 hz1 hz2
 have HR := Lib.hid (hr.keep (w' := w.alloc (.cells #[] 5)) (by simp) (fun b hb _ => Below.heap_alloc w _ b hb))
 clear hr
 have qT : ∀ (w : World) (a : Addr) (n c : Nat), (binOp .eql 45 (.slice (some a) n c) (.slice none 0 0)).run Tryz.prog w = .ok (.bool false) w := fun w a n c => Lib.run_eql_slice_nil w _ _ (some a) n c _ _ Tryz.underlying45
 go_enter Tryz.func79, Tryz.ntmps79
 go_wp2_with (at_builtin; refine wpList_app _ rfl (.tmp 5) (.tmp 6) 45 rfl w.heap.size 5 i0 (.int .u8 0) 1 1 Tryz.underlying45 HI.out HZ.out.1 HZ.out.2.1 HZ.out.2.2 rfl (by decide) (.slice (some ⟨w.heap.size, 0, none⟩) 0 0) 0 [] rfl (owns_empty _ _ _ rfl) G (some ⟨g, o, none⟩) l.length c (by8 l) rfl (by rw [by8_len]; omega) HR.out (by8_one _) (by unfold maxLen; omega) (by omega) (by simp) ?_; intro v1 w1 hown1 hg1 hat1 hnil1)
 go_ret
 rw [Nat.zero_add, List.nil_append] at hown1
 exact ⟨v1, rfl, Bs.own hown1, ((Below.refl _ _).alloc (Nat.le_refl _) _).grown hg1 (by simp) (fun g hg => by simp [Value.ownBlock] at hg; omega)⟩
end
section
open Go.RowKit
open Me Vf
namespace Vp
def ptrR : Value → Option (DataW Unit × List MemPlace)
 | .pointer none => some (.nil, [])
 | .pointer (some ⟨b, 0, none⟩) => some (.lit (.int .i64 (b : Int)), [])
 | _ => none
def enc : Option Nat → DataW Unit
 | none => .nil
 | some b => .lit (.int .i64 (b : Int))
def ptr : Option Nat → Value
 | none => .pointer none
 | some b => .pointer (some ⟨b, 0, none⟩)
theorem ptrR_inv {v : Value} {m : Option Nat} {ps : List MemPlace} (h : ptrR v = some (enc m, ps)) : v = ptr m := by
 unfold ptrR at h
 split at h
 ·cases m with
  | none => rfl
  | some b => simp [enc] at h
 ·cases m with
  | none => simp [enc] at h
  | some b =>
    simp [enc] at h
    have h1 := h.1
    show Value.pointer _ = Value.pointer _
    congr 3
    exact_mod_cast h1
 ·cases h
def Mp (w : World) (mv : Value) (mb : Option Nat) (k : Nat) (m : List UInt8 → Option Nat) : Prop :=
 (mv = .map none ∧ mb = none ∧ ∀ n, m n = none) ∨
 ∃ b D, mv = .map (some b) ∧ mb = some b ∧ w.ownsMap Tryz.prog 9 ptrR b k D ∧ (∀ n, D.atKey (.string n) .nil = enc (m n)) ∧ ∀ n, Maps.has D (.string n) = (m n).isSome
theorem keyS : Maps.Keyed Tryz.prog 9 := Maps.string_keyed Tryz.underlying9
theorem keyN (n : List UInt8) (h : n.length ≤ 1048576) : keyOf Tryz.prog 9 (.string ⟨n.toArray⟩) = some (.string n) := by
 have := Go.WideMaps.keyOf_string_mk (P := Tryz.prog) (k := 9) Tryz.underlying9 (s := ⟨n.toArray⟩) (by show n.toArray.size ≤ _; unfold maxLen; simp; omega)
 simpa using this
theorem zeroP (w : World) : (zeroValue 127).run Tryz.prog w = .ok (.pointer none) w := by kernel_rfl
theorem Mp.look {w : World} {mv : Value} {mb : Option Nat} {k : Nat} {m : List UInt8 → Option Nat} (h : Mp w mv mb k m) {n : List UInt8} (hn : n.length ≤ 1048576) :
 (Instr.lookup 77 mv (.string ⟨n.toArray⟩) false).run Tryz.prog w = .ok (ptr (m n)) w := by
 rcases h with ⟨rfl, _, h⟩ | ⟨b, D, rfl, _, hown, hat, _⟩
 ·have := Maps.look_nil (P := Tryz.prog) (w := w) (t := 77) false keyS Tryz.underlying77 (zeroP w) (keyN n hn)
  rw [h n]
  exact this
 ·obtain ⟨v, ps, hrun, hv⟩ := hown.lookup (t := 77) keyS Tryz.underlying77 (zeroP w) (zd := .nil) (zp := []) rfl (keyN n hn)
  rw [hat n] at hv
  rw [hrun, ptrR_inv hv]
theorem Mp.keep {w w' : World} {mv : Value} {mb : Option Nat} {k : Nat} {m : List UInt8 → Option Nat} (h : Mp w mv mb k m) (hk : ∀ b, mb = some b → w'.heap[b]? = w.heap[b]?) : Mp w' mv mb k m := by
 rcases h with h | ⟨b, D, hmv, hmb, hown, h1, h2⟩
 ·exact .inl h
 ·obtain ⟨es, clock, hb, rest⟩ := hown
  exact .inr ⟨b, D, hmv, hmb, ⟨es, clock, (hk b hmb).trans hb, rest⟩, h1, h2⟩
theorem Mp.lt {w : World} {mv : Value} {mb : Option Nat} {k : Nat} {m : List UInt8 → Option Nat} (h : Mp w mv mb k m) {b : Nat} (hb : mb = some b) : b < w.heap.size ∧ ∃ es clock, w.heap[b]? = some (.map es clock) := by
 rcases h with ⟨_, h, _⟩ | ⟨b', D, hmv, hmb, hown, h1, h2⟩
 ·rw [h] at hb; cases hb
 ·rw [hmb] at hb
  obtain rfl := Option.some.inj hb
  obtain ⟨es, clock, hh, _⟩ := id hown
  exact ⟨hown.lt, es, clock, hh⟩
theorem Mp.stored {w : World} {b k id : Nat} {D : DataW Unit} {m : List UInt8 → Option Nat} {n : List UInt8} (hown : w.ownsMap Tryz.prog 9 ptrR b (k + 1) (D.put (.string n) (enc (some id)))) (hD : Maps.IsMap D)
 (h1 : ∀ n, D.atKey (.string n) .nil = enc (m n)) (h2 : ∀ n, Maps.has D (.string n) = (m n).isSome) : Mp w (.map (some b)) (some b) (k + 1) (setM m n (some id)) := by
 refine .inr ⟨b, _, rfl, rfl, hown, fun x => ?_, fun x => ?_⟩
 ·unfold setM
  by_cases e : x = n
  ·subst e
   rw [if_pos rfl, Maps.atKey_put_same hD (show WideAt.IsKeyLit (.string x) from trivial)]
  ·rw [if_neg e, Maps.atKey_put_other (show Lit.string x ≠ Lit.string n by simpa using e), h1 x]
 ·unfold setM
  by_cases e : x = n
  ·subst e
   rw [if_pos rfl, Maps.has_put_same hD (show WideAt.IsKeyLit (.string x) from trivial)]
   rfl
  ·rw [if_neg e, Maps.has_put_other (show Lit.string x ≠ Lit.string n by simpa using e), h2 x]
theorem Mp.struck {w : World} {b k : Nat} {D : DataW Unit} {m : List UInt8 → Option Nat} {n : List UInt8} (hown : w.ownsMap Tryz.prog 9 ptrR b k (D.del (.string n)))
 (h1 : ∀ n, D.atKey (.string n) .nil = enc (m n)) (h2 : ∀ n, Maps.has D (.string n) = (m n).isSome) : Mp w (.map (some b)) (some b) k (setM m n none) := by
 refine .inr ⟨b, _, rfl, rfl, hown, fun x => ?_, fun x => ?_⟩
 ·unfold setM
  by_cases e : x = n
  ·subst e
   rw [if_pos rfl, Maps.atKey_del_same]
   rfl
  ·rw [if_neg e, Maps.atKey_del_other (show Lit.string x ≠ Lit.string n by simpa using e), h1 x]
 ·unfold setM
  by_cases e : x = n
  ·subst e
   rw [if_pos rfl, Maps.has_del_same]
   rfl
  ·rw [if_neg e, Maps.has_del_other (show Lit.string x ≠ Lit.string n by simpa using e), h2 x]
end Vp
end
end Go.Proofs.YtljlanhpjpjgaaaGreatDoor
