/- VpUndo VpCrash WtDx -/
import Derived.Test.YtljlanhpjpjgaaaGreatDoorJ1
import Derived.Test.YtljlanhpjpjgaaaGreatDoorJ32
import Derived.Deep.RegionLaw
import Derived.Test.YtljlanhpjpjgaaaGreatDoorJ44
import Derived.Test.YtljlanhpjpjgaaaGreatDoorJ40
import Derived.Test.YtljlanhpjpjgaaaGreatDoorJ9
import Derived.Test.YtljlanhpjpjgaaaGreatDoorJ25
namespace Go.Proofs.YtljlanhpjpjgaaaGreatDoor
set_option maxRecDepth 100000
set_option maxHeartbeats 8000000
section
open Go.RowKit
open Me Vf
namespace Me
theorem step_copy_bs {P : Program} {w : World} {ops : Array Oper} {o : Oper} {a : Act} {K : Act → World → Prop} {Q : Exit → Act → World → Prop} {E : Prop} (hgd : o.guard = none) (d s : Operand) (dT sT : TypeId)
 (ho : o.op = .call { callee := .builtin .copy, args := #[d, s], argTypes := #[dT, sT] }) (elem : TypeId) (hu : P.underlying dT = some (.slice elem)) (hsz : (P.info? elem).map (·.size) = some 1)
 (dp sp : Option Addr) (dLen dCap sLen sCap : Nat) (hd : a.eval d = .slice dp dLen dCap) (hs : a.eval s = .slice sp sLen sCap)
 (g off : Nat) (cur p : List UInt8) (t : TypeId) (hg : w.heap[g]? = some (.cells (by8 cur).toArray t (0, 0))) (hp : p.length = Nat.min sLen dLen)
 (hpos : 0 < p.length → dp = some ⟨g, off, none⟩) (G : Nat → Prop) (hr : Rd w G sp (by8 p)) (hfit : off + p.length ≤ cur.length)
 (h : ∀ w', Hid (w'.heap[g]? = some (.cells (by8 (upd cur off p)).toArray t (0, 0))) → Kp (fun b => b = g) w w' → Hid (w'.heap.size = w.heap.size) → K (a.put o.dst (goInt p.length)) w') :
 if Region.wanted o (yielded ops a.tmps) = true then Oper.wp P o a w K Q else E := by
 have hw : Region.wanted o (yielded ops a.tmps) = true := by simp [Region.wanted, hgd]
 rw [if_pos hw]
 exact wp_copy_bs d s dT sT ho elem hu hsz dp sp dLen dCap sLen sCap hd hs g off cur p t hg hp hpos G hr hfit h
theorem rd_from {w : World} {G : Nat → Prop} {A : Option Addr} {l : List UInt8} {s c : Nat} (h : Rd w G A (by8 l)) (hc : l.length ≤ c) : Rd w G (if c = s then A else Option.map (fun x => x.add s) A) (by8 (l.drop s)) := by
 by_cases hq : l.length ≤ s
 ·rw [List.drop_eq_nil_of_le hq]
  exact Rd.none_ _ _ _
 ·rw [if_neg (by omega)]
  intro hn
  obtain ⟨ad, rfl, h2⟩ := h (by rintro e; apply hn; rw [← by8_drop, e]; simp)
  have := (Rd.sub (w := w) (G := G) (ad := ad) (xs := by8 l) (fun _ => ⟨ad, rfl, h2⟩) s (l.length - s))
  rw [by8_drop, List.take_of_length_le (by rw [by8_len, List.length_drop]; omega)] at this
  exact this hn
end Me
def Vp.Undone (w : World) (fs : Nat) (mb lr : Option Nat) (I : Nat → Prop) (db : Nat → Nat) (G : Nat → Prop) (room : Int) (c : Vp.Co) (j : List Vp.Op) (N : Nat) (lv : Value) (ys : List Value) (e : Ending) (w' : World) : Prop :=
 e = .returned (.tuple #[]) ∧ ∃ mb' mv', Vp.Pt w' fs mb' lr I db G room c j N lv mv' ys ∧ Kp (Vp.Own fs mb lr I db G) w w' ∧ (mb' = mb ∨ ∃ b, mb' = some b ∧ w.heap.size ≤ b)
theorem undo_any {w : World} {fs : Nat} {mb lr : Option Nat} {I : Nat → Prop} {db : Nat → Nat} {G : Nat → Prop} {room : Int} {c : Vp.Co} {j : List Vp.Op} {N : Nat} {lv mv v : Value} {ys : List Value} {o : Vp.Op} (h : Vp.Pt w fs mb lr I db G room c j N lv mv ys)
 (hL : Vp.Live I c (o :: j)) (hs : ∃ b, mb = some b) (hold : Bs w G v o.old) (hkd : o.kind = 1 ∨ o.kind = 2 ∨ o.kind = 3) (hfit : o.kind = 2 → o.at_ + o.old.length ≤ (c.sto o.on).b.length) (hN : N ≤ 1048576) (u0 : -1099511627776 ≤ c.used) (u1 : c.used ≤ 1099511627776) (m : Int) :
 Calls Tryz.prog 82 #[.pointer (some ⟨fs, 0, none⟩), .agg #[.int .i64 o.kind, .pointer (some ⟨o.on, 0, none⟩), .int .i64 (o.at_ : Int), v], .int .i64 m] w (Vp.Undone w fs mb lr I db G room (c.undo o m) j (N + 1) lv ys) := by
 obtain ⟨k, hk, hm⟩ := h.map
 have hon := hL.2 o (by simp)
 obtain ⟨f1, f2, f3, f4⟩ := h.file o.on hon
 obtain ⟨A, cc, rfl, hcc, hccm, hrd⟩ := hold
 obtain ⟨b, rfl⟩ := hs
 have hbx : ∀ X : Obj, Below w.heap.size w (w.alloc X) := fun X => (Below.refl _ _).alloc (Nat.le_refl _) _
 have hmk : ∀ X : Obj, Vp.Mp (w.alloc X) mv (some b) k c.map := fun X => hm.keep (fun b hb => (hbx X).block b (hm.lt hb).1)
 have hH : ∀ X : Obj, Vp.Pt (w.alloc X) fs (some b) lr I db G room c j N lv mv ys := fun X => h.below (hbx X)
 rcases hkd with hkd | hkd | hkd
 ·have HD := Lib.hid (fun X : Obj => drop_any (w := w.alloc X) (hH X).heap (hmk X) ((hH X).file o.on hon).1 (by omega) (by omega) (by omega) (by omega))
  have HEND : Hid (∀ (X : Obj) (w2 : World), Vp.Putten (w.alloc X) fs (some b) k lv room (c.used - (c.sto o.on).b.length) (Vp.setM c.map (c.sto o.on).name none) (.returned (.tuple #[])) w2 → Vp.Undone w fs (some b) lr I db G room (c.undo o m) j (N + 1) lv ys (.returned (.tuple #[])) w2) := Lib.hid fun X w2 hp => by
   have hL2 := hL.undo (o := o) m
   rw [Vp.undo_one hkd] at hL2
   obtain ⟨mb', mv', p1, p2, p3⟩ := (hH X).putten (N' := N + 1) hp (by omega) hL2
   refine ⟨rfl, mb', mv', ?_, (Kp.of_below (hbx X)).trans p2 (fun i hi e => ?_), p3.imp id (fun ⟨b', e, h⟩ => ⟨b', e, Nat.le_trans (hbx X).size h⟩)⟩
   ·rw [Vp.undo_one hkd]; exact p1
   ·rcases e with e | e
    ·exact .inl e
    ·exact .inr (.inl e)
  clear h hL hfit hm hmk hH f1 f2 f3 f4 hbx hrd hon
  rw [hkd]
  go_enter Tryz.func82, Tryz.ntmps82
  go_wp2_with (go_at_call 107; (with_reducible refine (HD.out _).mono ?_); rintro e w2 hp; obtain rfl := hp.1; have HP := Lib.hid hp; clear hp)
  ((try simp only [Exit.inBlock, Exit.then]); first | (refine bodyPost_ret (results_none rfl _ _ _) rfl ?_) | (refine bodyPost_end (results_none rfl _ _ _) rfl ?_))
  exact HEND.out _ _ HP.out
 ·have hfit := hfit hkd
  unfold maxLen at hccm
  obtain ⟨s, hs⟩ : ∃ s, s = Vp.stay o m := ⟨_, rfl⟩
  have hsl : s ≤ o.old.length := by rw [hs]; unfold Vp.stay; omega
  have hX := hH (.cells #[.int .i64 2, .pointer (some ⟨o.on, 0, none⟩), .int .i64 (o.at_ : Int), .slice A o.old.length cc] 136)
  have hXB := hbx (.cells #[.int .i64 2, .pointer (some ⟨o.on, 0, none⟩), .int .i64 (o.at_ : Int), .slice A o.old.length cc] 136)
  have hlt : o.on < w.heap.size := h.lt (.inr (.inr (.inr (.inl hon))))
  obtain ⟨W, hW⟩ : ∃ W, W = w.alloc (.cells #[.int .i64 2, .pointer (some ⟨o.on, 0, none⟩), .int .i64 (o.at_ : Int), .slice A o.old.length cc] 136) := ⟨_, rfl⟩
  have hnew : W.heap[w.heap.size]? = some (.cells #[.int .i64 2, .pointer (some ⟨o.on, 0, none⟩), .int .i64 (o.at_ : Int), .slice A o.old.length cc] 136) := by rw [hW]; exact heap_alloc_new w _
  rw [← hW] at hX hXB
  obtain ⟨x1, x2, _, _⟩ := hX.file o.on hon
  obtain ⟨e0, e1, _⟩ := Vp.fl_cells x1
  have hdrop : (o.old.drop s).length = o.old.length - s := by rw [List.length_drop]
  have HMin : Hid ((o.old.drop s).length = Nat.min (o.old.length - s) ((c.sto o.on).b.length - (o.at_ + s))) := Lib.hid (by rw [hdrop]; exact (Nat.min_eq_left (by omega)).symm)
  have HFIT : Hid (o.at_ + s + (o.old.drop s).length ≤ (c.sto o.on).b.length) := Lib.hid (by rw [hdrop]; omega)
  have HPOS : Hid (0 < (o.old.drop s).length → (if (c.sto o.on).b.length = o.at_ + s then some (⟨db o.on, 0, none⟩ : Addr) else some ⟨db o.on, o.at_ + s, none⟩) = some ⟨db o.on, o.at_ + s, none⟩) := Lib.hid (fun h => by rw [hdrop] at h; rw [if_neg (by omega)])
  obtain ⟨A9, hA9⟩ : ∃ A9, A9 = (if cc = s then A else Option.map (fun x => x.add s) A) := ⟨_, rfl⟩
  have HRD : Hid (Rd W G A9 (by8 (o.old.drop s))) := Lib.hid (hA9 ▸ rd_from (hrd.below hXB) hcc)
  have HX2 := Lib.hid x2
  have HEND : Hid (∀ w2 : World, w2.heap[db o.on]? = some (Vp.btC (upd (c.sto o.on).b (o.at_ + s) (o.old.drop s))) → Kp (fun i => i = db o.on) W w2 → Vp.Undone w fs (some b) lr I db G room (c.undo o m) j (N + 1) lv ys (.returned (.tuple #[])) w2) := Lib.hid fun w2 hd2 hk2 => by
   refine ⟨rfl, some b, mv, ?_, (Kp.of_below hXB).trans hk2 (fun i hi e => .inr (.inr (.inr (.inr (.inl ⟨o.on, hon, e.symm⟩))))), .inl rfl⟩
   rw [Vp.undo_two hkd, ← hs]
   have hp := hX.filled hon (o := o.at_ + s) (b := o.old.drop s) (by rw [hdrop]; omega) hd2 hk2
   exact hp.more (Nat.le_succ _)
  have hbl : ((c.sto o.on).b.length : Int) ≤ 1073741824 := by omega
  have hw1 : IntKind.i64.wrap ((o.at_ : Int) + (s : Int)) = (o.at_ : Int) + (s : Int) := IntWalk.i64_in _ (by omega)
  have hw3 : ((o.at_ : Int) + (s : Int)).toNat = o.at_ + s := by omega
  have b1 : (0 : Int) ≤ (o.at_ : Int) + (s : Int) := by omega
  have b2 : (o.at_ : Int) + (s : Int) ≤ ((c.sto o.on).b.length : Int) := by omega
  have b3 : (s : Int) ≤ (o.old.length : Int) := by omega
  have b4 : (s : Int) ≤ (cc : Int) := by omega
  have b5 : s ≤ cc := by omega
  have b6 : o.at_ + s ≤ (c.sto o.on).b.length := by omega
  have HS := Lib.hid hs
  have HW := Lib.hid hW
  have HSM : Hid (min (max m 0) (o.old.length : Int) = (s : Int)) := Lib.hid (by rw [hs]; unfold Vp.stay; omega)
  have q1 : W.cell? ⟨w.heap.size, 1, none⟩ = some (.pointer (some ⟨o.on, 0, none⟩)) := by rw [cell_of_row W _ 1 _ _ _ hnew]; rfl
  have q2 : W.cell? ⟨w.heap.size, 2, none⟩ = some (.int .i64 (o.at_ : Int)) := by rw [cell_of_row W _ 2 _ _ _ hnew]; rfl
  have q3 : W.cell? ⟨w.heap.size, 3, none⟩ = some (.slice A o.old.length cc) := by rw [cell_of_row W _ 3 _ _ _ hnew]; rfl
  clear h hL hfit hm hmk hH f1 f2 f3 f4 hbx hrd hon hX hXB x1 x2 e0 hdrop hs hW hnew
  rw [hkd]
  go_enter Tryz.func82, Tryz.ntmps82
  go_wp2_with fail
  rw [← HW.out, HSM.out]
  go_region_law (refine step_copy_bs rfl (.tmp 31) (.tmp 35) 45 45 rfl 5 Tryz.underlying45 vsizeU8 (if (c.sto o.on).b.length = o.at_ + s then some ⟨db o.on, 0, none⟩ else some ⟨db o.on, o.at_ + s, none⟩) A9 ((c.sto o.on).b.length - (o.at_ + s)) ((c.sto o.on).b.length - (o.at_ + s)) (o.old.length - s) (cc - s) (by simp [Act.eval, Act.put]) (by simp [Act.eval, Act.put, hA9]) (db o.on) (o.at_ + s) _ (o.old.drop s) 5 HX2.out HMin.out HPOS.out G HRD.out HFIT.out ?_; intro w2 hd2 hk2 hs2)
  all_goals
   go_wp2_with fail
   all_goals
    ((try simp only [Exit.inBlock, Exit.then]); first | (refine bodyPost_ret (results_none rfl _ _ _) rfl ?_) | (refine bodyPost_end (results_none rfl _ _ _) rfl ?_))
    exact HEND.out _ hd2.out ⟨hk2.os, hk2.tape, hk2.output, hk2.size, hk2.block⟩
 ·have HD := Lib.hid (fun X : Obj => put_any (w := w.alloc X) (hH X).heap (hmk X) ((hH X).file o.on hon).1 (by omega) (by omega) (by omega) (by omega) (by omega))
  have HEND : Hid (∀ (X : Obj) (w2 : World), Vp.Putten (w.alloc X) fs (some b) (k + 1) lv room (c.used + (c.sto o.on).b.length) (Vp.setM c.map (c.sto o.on).name (some o.on)) (.returned (.tuple #[])) w2 → Vp.Undone w fs (some b) lr I db G room (c.undo o m) j (N + 1) lv ys (.returned (.tuple #[])) w2) := Lib.hid fun X w2 hp => by
   have hL2 := hL.undo (o := o) m
   rw [Vp.undo_three hkd] at hL2
   obtain ⟨mb', mv', p1, p2, p3⟩ := (hH X).putten (N' := N + 1) hp (by omega) hL2
   refine ⟨rfl, mb', mv', ?_, (Kp.of_below (hbx X)).trans p2 (fun i hi e => ?_), p3.imp id (fun ⟨b', e, h⟩ => ⟨b', e, Nat.le_trans (hbx X).size h⟩)⟩
   ·rw [Vp.undo_three hkd]; exact p1
   ·rcases e with e | e
    ·exact .inl e
    ·exact .inr (.inl e)
  clear h hL hfit hm hmk hH f1 f2 f3 f4 hbx hrd hon
  rw [hkd]
  go_enter Tryz.func82, Tryz.ntmps82
  go_wp2_with (go_at_call 65; (with_reducible refine (HD.out _).mono ?_); rintro e w2 hp; obtain rfl := hp.1; have HP := Lib.hid hp; clear hp)
  ((try simp only [Exit.inBlock, Exit.then]); first | (refine bodyPost_ret (results_none rfl _ _ _) rfl ?_) | (refine bodyPost_end (results_none rfl _ _ _) rfl ?_))
  exact HEND.out _ _ HP.out
end
section
open Go.RowKit
open Me Vf
namespace Vp
def pend (fs : Nat) (w : World) : Nat := match w.cell? ⟨fs, 0, none⟩ with
 | some (.slice _ n _) => n
 | _ => 0
theorem Pt.pend {w : World} {fs : Nat} {mb lr : Option Nat} {I : Nat → Prop} {db : Nat → Nat} {G : Nat → Prop} {room : Int} {c : Co} {j : List Op} {N : Nat} {lv mv : Value} {ys : List Value} (h : Pt w fs mb lr I db G room c j N lv mv ys) : Vp.pend fs w = j.length := by
 obtain ⟨c0, _⟩ := fs_cells h.heap
 obtain ⟨A, cc, rfl, _⟩ := own_form h.own
 unfold Vp.pend
 rw [c0]
theorem Pt.last {w : World} {fs : Nat} {mb lr : Option Nat} {I : Nat → Prop} {db : Nat → Nat} {G : Nat → Prop} {room : Int} {c : Co} {o : Op} {j : List Op} {N : Nat} {lv mv : Value} {ys : List Value} (h : Pt w fs mb lr I db G room c (o :: j) N lv mv ys) :
 ∃ g cap A cc, lv = .slice (some ⟨g, 0, none⟩) (j.length + 1) cap ∧ j.length + 1 ≤ cap ∧ g < w.heap.size ∧ lr = some g ∧ w.cell? ⟨g, j.length * 4, none⟩ = some (.int .i64 o.kind) ∧ w.cell? ⟨g, j.length * 4 + 1, none⟩ = some (.pointer (some ⟨o.on, 0, none⟩)) ∧
  w.cell? ⟨g, j.length * 4 + 2, none⟩ = some (.int .i64 (o.at_ : Int)) ∧ w.cell? ⟨g, j.length * 4 + 3, none⟩ = some (.slice A o.old.length cc) ∧ Bs w G (.slice A o.old.length cc) o.old := by
 have hown := h.own
 have hrow := h.row
 rcases h.own.2 with ⟨_, h0⟩ | ⟨g, cap, cur, rfl, hb, hg, hnc, hcm, hcs, ht⟩
 ·simp at h0
 ·obtain ⟨cs, hcs4, hx⟩ := h.ops.get OpC.four j.length (by simp)
  have hlast : (o :: j).reverse[j.length]'(by simp) = o := by simp
  rw [hlast] at hcs4
  obtain ⟨pv, rfl, hbs⟩ := hcs4
  have hb2 := hbs
  obtain ⟨A, cc, rfl, _, _, _⟩ := hbs
  have hlen : ys.length = (o :: j).length * 4 := hown.1
  rw [List.length_cons] at hlen
  obtain ⟨ad, hA, hlt, _, hcell⟩ := (Rd.own hown).at_ (j.length * 4) (by omega)
  obtain rfl := Option.some.inj hA
  have hc : ∀ i u, (opC o.kind o.on o.at_ (.slice A o.old.length cc))[i]? = some u → i < 4 → w.cell? ⟨g, j.length * 4 + i, none⟩ = some u := fun i u hu hi => by
   have := hcell (j.length * 4 + i) u ((hx i hi).trans hu)
   rwa [Addr.add_lit, Nat.zero_add] at this
  exact ⟨g, cap, A, cc, rfl, hnc, hlt, hrow.symm, hc 0 _ rfl (by omega), hc 1 _ rfl (by omega), hc 2 _ rfl (by omega), hc 3 _ rfl (by omega), hb2⟩
theorem Pt.popped {w w' : World} {fs : Nat} {mb lr : Option Nat} {I : Nat → Prop} {db : Nat → Nat} {G : Nat → Prop} {room : Int} {c : Co} {o : Op} {j : List Op} {N g cap : Nat} {mv : Value} {ys : List Value} {op : Array Value} {e : Ending}
 (h : Pt w fs mb lr I db G room c (o :: j) (N + 1) (.slice (some ⟨g, 0, none⟩) (j.length + 1) cap) mv ys) (hp : Popped w fs g j.length cap room c.used mv op e w') :
 Pt w' fs mb lr I db G room c j N (.slice (some ⟨g, 0, none⟩) j.length cap) mv (ys.take (j.length * 4)) := by
 obtain ⟨_, h1, hk⟩ := hp
 obtain ⟨k, hkk, hm⟩ := h.map
 rw [List.length_cons] at hkk
 have hIk : ∀ id, I id → w'.heap[id]? = w.heap[id]? := fun id hid => hk.block id (h.lt (.inr (.inr (.inr (.inl hid))))) (h.fl hid).1
 have hDk : ∀ id, I id → w'.heap[db id]? = w.heap[db id]? := fun id hid => hk.block _ (h.lt (.inr (.inr (.inr (.inr (.inl ⟨id, hid, rfl⟩)))))) (h.bt hid).1
 have hGk : ∀ b, b < w.heap.size → G b → w'.heap[b]? = w.heap[b]? := fun b hb hg => hk.block b hb (h.g b hg).2.1
 have hops : Els (OpC w G) j.reverse (ys.take (j.length * 4)) := by
  have h2 := h.ops
  rw [List.reverse_cons] at h2
  have key : ∀ (l : List Op) (x : Op) (zs : List Value), Els (OpC w G) (l ++ [x]) zs → Els (OpC w G) l (zs.take (l.length * 4)) := by
   intro l
   induction l with
   | nil => intro x zs _; simp [Els]
   | cons a r ih =>
     intro x zs hz
     obtain ⟨cs, rest, rfl, ha, hr⟩ := hz
     have hc4 := OpC.four _ _ ha
     refine ⟨cs, rest.take (r.length * 4), ?_, ha, ih x rest hr⟩
     rw [List.length_cons, List.take_append, hc4, List.take_of_length_le (by omega)]
     congr 2
     omega
  have := key _ _ _ h2
  rwa [List.length_reverse] at this
 refine ⟨h1, ⟨k, by omega, hm.keep (fun b hb => hk.block b (hm.lt hb).1 (fun e => h.fs_map (e ▸ hb)))⟩, fun id hid => ?_, h.inj, owns_keep (own_less h.own) (fun g' hg' => ?_), hops.mono (OpC.keep hk.size hGk), h.row, ⟨h.live.1, fun o' ho => h.live.2 o' (by simp [ho])⟩, fun _ => h.some_ (by simp), fun b hb => ?_⟩
 ·obtain ⟨f1, f2, f3⟩ := h.file id hid
  exact ⟨(hIk id hid).trans f1, (hDk id hid).trans f2, f3⟩
 ·have e : g = g' := by simpa [Value.ownBlock] using hg'
  subst e
  have hg2 : lr = some g := h.row.symm
  exact hk.block g (h.lt (.inr (.inr (.inl hg2)))) (fun e => h.fs_row (e ▸ hg2))
 ·obtain ⟨g1, g2⟩ := h.g b hb
  exact ⟨Nat.lt_of_lt_of_le g1 hk.size, g2⟩
def Mid (w : World) (M : Nat → Prop) (fs N : Nat) (S : Sv) (n m : Int) (wr : World) : Prop :=
 ∃ mb lr I db G c j lv mv ys, Pt wr fs mb lr I db G S.room c j N lv mv ys ∧ Cr S n m c j ∧ Kp M w wr ∧ ∀ b, Own fs mb lr I db G b → M b ∨ w.heap.size ≤ b
theorem Cr.used {S : Sv} {n m : Int} {c : Co} {j : List Op} {cnt : Nat} (h : Cr S n m c j) (hn : n.toNat < j.length) (hi : Inv cnt S) : 0 ≤ c.used ∧ c.used ≤ S.room := by
 obtain ⟨l, h1, h2, h3, _⟩ := h
 have hu := (h3 hn).view.used
 have hle : l.length ≤ S.l.length := by
  have := congrArg List.length h2
  rw [List.length_reverse, List.length_take] at this
  omega
 have := (hi.all l.length hle).2.1
 rw [h2] at hu
 omega
end Vp
theorem pcrash_any {w : World} {M : Nat → Prop} {fs N cnt : Nat} {S : Vf.Sv} (h : Vp.Pg w M fs N S) (n m : Int) (hN : N ≤ 1048575) (hi : Vf.Inv cnt S) :
 Calls Tryz.prog 41 #[.pointer (some ⟨fs, 0, none⟩), .int .i64 n, .int .i64 m] w (Vp.PNext w M fs N ⟨S.room, Vf.crash S n m, Vf.crash S n m, []⟩ (.tuple #[])) := by
 obtain ⟨mb, lr, I, db, G, c, j, lv, mv, ys, h1, h2, h3, h4⟩ := h
 have HSTART : Hid (Vp.Mid w M fs N S n m w) := Lib.hid ⟨mb, lr, I, db, G, c, j, lv, mv, ys, h1, Vp.Cr.start h2 n m, Kp.refl _ _, fun b hb => .inl (h4 b hb)⟩
 obtain ⟨q, hq0⟩ : ∃ q, q = n.toNat := ⟨_, rfl⟩
 have HQ := Lib.hid hq0
 have HMX : Hid (max n 0 = (q : Int)) := Lib.hid (by omega)
 clear hq0
 have HI := Lib.hid hi
 have hr1 := hi.room1
 have hr0 := hi.room0
 clear h1 h2 h3 h4 hi
 go_enter Tryz.func41, Tryz.ntmps41
 go_wp2_with fail
 rw [HMX.out]
 go_loopw [15] (fun _ wr => Hid (Vp.Mid w M fs N S n m wr)) (fun _ wr => Vp.pend fs wr)
 case atStart => exact HSTART
 case round =>
  obtain ⟨mb, lr, I, db, G, c, j, lv, mv, ys, q1, q2, q3, q4⟩ := hrel.out
  have hpend := q1.pend
  obtain ⟨k, hk, _⟩ := q1.map
  by_cases hlt : n.toNat < j.length
  ·cases j with
   | nil => simp at hlt
   | cons o j =>
     rw [List.length_cons] at hpend hk hlt
     obtain ⟨N, rfl⟩ : ∃ N', N = N' + 1 := ⟨N - 1, by omega⟩
     obtain ⟨g, cap, A, cc, rfl, hcap, hgl, hlr, d0, d1, d2, d3, hbs⟩ := q1.last
     have HCNT := Lib.hid (count_any q1.heap q1.own (by rw [List.length_cons]; omega))
     have e1 : (((o :: j).length : Nat) : Int) = (j.length : Int) + 1 := by simp
     rw [e1] at HCNT
     clear e1
     have HPOP := Lib.hid (pop_any (on := o.on) (at_ := o.at_) (kind := o.kind) (A := A) (m := o.old.length) (cc := cc) q1.heap (by omega) hcap hgl d0 d1 d2 d3)
     have HC1 : Hid (∀ (w1 : World) (X : Obj), Vp.Popped wr fs g j.length cap S.room c.used mv #[.int .i64 o.kind, .pointer (some ⟨o.on, 0, none⟩), .int .i64 (o.at_ : Int), .slice A o.old.length cc] (.returned (.agg #[.int .i64 o.kind, .pointer (some ⟨o.on, 0, none⟩), .int .i64 (o.at_ : Int), .slice A o.old.length cc])) w1 →
      Calls Tryz.prog 80 #[.pointer (some ⟨fs, 0, none⟩)] (w1.alloc X) fun e w' => e = .returned (.int .i64 (j.length : Int)) ∧ w1.alloc X = w') := Lib.hid fun w1 X hp => by
      have p := (q1.popped hp).below (w' := w1.alloc X) ((Below.refl _ _).alloc (Nat.le_refl _) _)
      exact count_any p.heap p.own (by omega)
     have HU : Hid (∀ (w1 : World) (X : Obj), Vp.Popped wr fs g j.length cap S.room c.used mv #[.int .i64 o.kind, .pointer (some ⟨o.on, 0, none⟩), .int .i64 (o.at_ : Int), .slice A o.old.length cc] (.returned (.agg #[.int .i64 o.kind, .pointer (some ⟨o.on, 0, none⟩), .int .i64 (o.at_ : Int), .slice A o.old.length cc])) w1 →
      Calls Tryz.prog 82 #[.pointer (some ⟨fs, 0, none⟩), .agg #[.int .i64 o.kind, .pointer (some ⟨o.on, 0, none⟩), .int .i64 (o.at_ : Int), .slice A o.old.length cc], .int .i64 (if j.length = n.toNat then m else 0)] (w1.alloc X) fun e w' => e = .returned (.tuple #[]) ∧ Hid (Vp.Mid w M fs (N + 1) S n m w') ∧ Vp.pend fs w' = j.length) := Lib.hid fun w1 X hp => by
      have hb1 : Below w1.heap.size w1 (w1.alloc X) := (Below.refl _ _).alloc (Nat.le_refl _) _
      have p := (q1.popped hp).below hb1
      obtain ⟨_, _, hk1⟩ := hp
      obtain ⟨f1, f2⟩ := q2.fit hlt
      obtain ⟨u0, u1⟩ := q2.used hlt HI.out
      have hbw : Bs (w1.alloc X) G (.slice A o.old.length cc) o.old := (hbs.keep hk1.size (fun b hb hg => hk1.block b hb (q1.g b hg).2.1)).below hb1
      refine (undo_any p q1.live (q1.some_ (by simp)) hbw f1 f2 (by omega) (by omega) (by omega) _).mono ?_
      rintro e w' ⟨rfl, mb', mv', p1, p2, p3⟩
      have hsz : wr.heap.size ≤ (w1.alloc X).heap.size := Nat.le_trans hk1.size hb1.size
      refine ⟨rfl, Lib.hid ⟨mb', lr, I, db, G, _, j, _, mv', _, p1, q2.step hlt, ?_, Vp.own_map (n := (w1.alloc X).heap.size) q4 p3 (fun b hb => .inr (Nat.le_trans q3.size (Nat.le_trans hsz hb)))⟩, p1.pend⟩
      refine q3.trans ((Kp.trans (O := Vp.Own fs mb lr I db G) (O' := fun _ => False) (hk1.mono (fun i _ e => .inl e)) (Kp.of_below hb1) (fun _ _ h => h.elim)).trans p2 (fun i _ h => h)) (fun i hi hO => ?_)
      rcases q4 i hO with h | h
      ·exact h
      ·omega
     have HPN := Lib.hid hpend
     have hgt : (q : Int) < (j.length : Int) + 1 := by have := HQ.out; omega
     by_cases hq : j.length = n.toNat
     ·rw [if_pos hq] at HU
      have t1 : (j.length == q) = true := by rw [HQ.out]; simpa using hq
      have t2 : ((j.length : Int) == (q : Int)) = true := by rw [HQ.out, hq]; simp
      clear q1 q2 q3 q4 hpend hk hlt hbs d0 d1 d2 d3 hcap hgl hlr hq
      go_wp2_with (first | (go_at_call 80; (with_reducible refine (HCNT.out).mono ?_); rintro e w' ⟨rfl, rfl⟩) | (go_at_call 81; (with_reducible refine (HPOP.out).mono ?_); rintro e w1 hp; obtain rfl := hp.1; have HP := Lib.hid hp; clear hp) | (go_at_call 80; (with_reducible refine (HC1.out w1 _ HP.out).mono ?_); rintro e w' ⟨rfl, rfl⟩) | (go_at_call 82; (with_reducible refine (HU.out w1 _ HP.out).mono ?_); rintro e w2 ⟨rfl, hmid, hpd⟩; have HM := Lib.hid hmid; have HPD := Lib.hid hpd; clear hmid hpd))
      go_roundw
      case rel => first | exact HM.out | ((repeat apply Exists.intro); exact ⟨HM.out, rfl⟩)
      case measure => have h1 := HPD.out; have h2 := HPN.out; omega
     ·rw [if_neg hq] at HU
      have t1 : (j.length == q) = false := by rw [HQ.out]; simpa using hq
      have t2 : ((j.length : Int) == (q : Int)) = false := by have := HQ.out; simp; omega
      clear q1 q2 q3 q4 hpend hk hlt hbs d0 d1 d2 d3 hcap hgl hlr hq
      go_wp2_with (first | (go_at_call 80; (with_reducible refine (HCNT.out).mono ?_); rintro e w' ⟨rfl, rfl⟩) | (go_at_call 81; (with_reducible refine (HPOP.out).mono ?_); rintro e w1 hp; obtain rfl := hp.1; have HP := Lib.hid hp; clear hp) | (go_at_call 80; (with_reducible refine (HC1.out w1 _ HP.out).mono ?_); rintro e w' ⟨rfl, rfl⟩) | (go_at_call 82; (with_reducible refine (HU.out w1 _ HP.out).mono ?_); rintro e w2 ⟨rfl, hmid, hpd⟩; have HM := Lib.hid hmid; have HPD := Lib.hid hpd; clear hmid hpd))
      go_roundw
      case rel => first | exact HM.out | ((repeat apply Exists.intro); exact ⟨HM.out, rfl⟩)
      case measure => have h1 := HPD.out; have h2 := HPN.out; omega
  ·have HCNT := Lib.hid (count_any q1.heap q1.own (by omega))
   have HFG := Lib.hid (forget_any q1.heap q1.form)
   have hle : (j.length : Int) ≤ (q : Int) := by have := HQ.out; omega
   have hv := q2.done (by omega)
   have HEND : Hid (∀ w', Vp.Forgot wr fs S.room c.used mv (.returned (.tuple #[])) w' → Vp.PNext w M fs N ⟨S.room, Vf.crash S n m, Vf.crash S n m, []⟩ (.tuple #[]) (.returned (.tuple #[])) w') := Lib.hid fun w' hf => by
    obtain ⟨_, g1, g2⟩ := hf
    obtain ⟨M', p1, p2, p3⟩ := Vp.sync_end (S := S) (r := Vf.crash S n m) (M := fun b => M b ∨ w.heap.size ≤ b) q1 hv q4 g1 g2
    refine ⟨rfl, M', p1, q3.trans p2 (fun i hi h => ?_), fun b hb => ?_⟩
    ·rcases h with h | h
     ·exact h
     ·omega
    ·rcases p3 b hb with h | h
     ·exact h
     ·exact .inr (Nat.le_trans q3.size h)
   clear q1 q2 q3 q4 hpend hk hlt hv
   generalize j.length = jl at *
   go_wp2_with (first | (go_at_call 80; (with_reducible refine (HCNT.out).mono ?_); rintro e w' ⟨rfl, rfl⟩) | (go_at_call 68; (with_reducible refine (HFG.out).mono ?_); rintro e w' hf; obtain rfl := hf.1; have HFF := Lib.hid hf; clear hf))
   ((try simp only [Exit.inBlock, Exit.then]); first | (refine bodyPost_ret (results_none rfl _ _ _) rfl ?_) | (refine bodyPost_end (results_none rfl _ _ _) rfl ?_))
   exact HEND.out _ HFF.out
end
section
open Go.RowKit Go.Sort
open Me
open Wp
open Ws
theorem dx_write {w0 W : World} {fs xs c1 c2 : Nat} {S1 S2 : Vf.Sv} {Q : Nat → Prop} (h : Dx w0 fs xs c1 c2 S1 S2 Q W) (hc : c1 ≤ 490000) (o : Int) (ho : o ≤ 9223372036854775807) (L : List UInt8) (v : Value) (hv : Bs W (fun i => i < w0.heap.size ∨ Q i) v L) (hL : L.length ≤ 1000000) :
 Calls Tryz.prog 40 #[.pointer (some ⟨fs, 0, none⟩), .string ⟨#[97]⟩, .int .i64 o, .slice (some ⟨W.heap.size, 0, none⟩) 1 1] (W.alloc (.cells #[v] 45)) fun e w' => (∃ r, e = .returned (.int .i64 r)) ∧ Hid (Dx w0 fs xs (c1 + 1) c2 (Vf.write S1 [97] o L).1 S2 Q w') ∧ Hid (Kp (fun b => ¬ (b < w0.heap.size ∨ Q b)) W w') := by
 have hb : Below W.heap.size W (W.alloc (.cells #[v] 45)) := (Below.refl _ _).alloc (Nat.le_refl _) _
 have h2 := h.laid (Q' := fun b => Q b ∨ b = W.heap.size) hb (fun i hi => hi.imp id (fun e => ⟨by omega, by rw [e]; simp⟩))
 obtain ⟨A, c, rfl, h3, h4, h5⟩ := hv
 have hbt : Bs (W.alloc (.cells #[.slice A L.length c] 45)) (fun i => i < w0.heap.size ∨ Q i) (.slice A L.length c) L := Bs.keep ⟨A, c, rfl, h3, h4, h5⟩ hb.size (fun i hi _ => hb.block i hi)
 refine (h2.prog (c1' := c1 + 1) (S1' := (Vf.write S1 [97] o L).1) (P := fun e => ∃ r, e = .returned (.int .i64 r)) (fun V ro hV => ?_)).mono ?_
 ·have h := powrite ro (by omega) [97] o ho [L] _ (ps_oneG hbt (RowAt.new W #[.slice A L.length c] 45) (fun i hi => hV i (hi.imp id .inl)) (hV _ (.inr (.inr rfl)))) (by simp) (by rw [one_flat]; omega)
  rw [one_flat] at h
  exact h.mono fun e w' ⟨a1, a2, a3⟩ => ⟨⟨_, a1⟩, a2, a3⟩
 ·rintro e w' ⟨hr, hd, hk⟩
  exact ⟨hr, Lib.hid (hd.out.less fun _ => .inl), Lib.hid ((Kp.of_below hb).trans hk.out (fun i _ ho hq => ho (Or.imp id Or.inl hq)))⟩
theorem dx_crash {w0 W : World} {fs xs c1 c2 : Nat} {S1 S2 : Vf.Sv} {Q : Nat → Prop} (h : Dx w0 fs xs c1 c2 S1 S2 Q W) (hc : c1 ≤ 490000) (n m : Int) :
 Calls Tryz.prog 41 #[.pointer (some ⟨fs, 0, none⟩), .int .i64 n, .int .i64 m] W fun e w' => e = .returned (.tuple #[]) ∧ Hid (Dx w0 fs xs (c1 + 1) c2 ⟨S1.room, Vf.crash S1 n m, Vf.crash S1 n m, []⟩ S2 Q w') ∧ Hid (Kp (fun b => ¬ (b < w0.heap.size ∨ Q b)) W w') := by
 refine (h.prog (c1' := c1 + 1) (S1' := ⟨S1.room, Vf.crash S1 n m, Vf.crash S1 n m, []⟩) (P := fun e => e = .returned (.tuple #[])) (fun V ro hV => ?_)).mono fun e w' h => h
 obtain ⟨M, h1, h2, h3⟩ := ro
 exact (pcrash_any h1 n m (by omega) h2).mono fun e w' hn => PO.of_next h3 (by omega) (h2.crash n m) hn
theorem window12 (W : World) (b off l m cap : Nat) (hl : l + 12 ≤ m) (hm : m ≤ cap) (i j : Int) (hi : i = (l : Int)) (hj : j = (l : Int) + 12) :
 (Instr.slice 45 (.slice (some ⟨b, off, none⟩) m cap) (some (.int .i64 i)) (some (.int .i64 j)) none).run Tryz.prog W = .ok (.slice (some ⟨b, off + l, none⟩) 12 (cap - l)) W := by
 subst hi hj
 have h1 : (l : Int) ≤ (l : Int) + 12 := by omega
 have h2 : (l : Int) + 12 ≤ (cap : Int) := by omega
 have h3 : (0 : Int) ≤ (l : Int) := by omega
 have h4 : (0 : Int) ≤ (l : Int) + 12 := by omega
 have h5 : ((l : Int) + 12).toNat = l + 12 := by omega
 have h6 : ¬ cap = l := by omega
 simp [go_sem, *]
theorem tw_reads {w : World} {A : Option Addr} {B : List UInt8} {c : Nat} (h : Reads w (.slice A B.length c) B) {i : Nat} (hi : i + 12 ≤ B.length) : ∃ b off, A = some ⟨b, off, none⟩ ∧ By w b (off + i) (tw B i) ∧ B.length ≤ c := by
 obtain ⟨A', c', e, hc, hr⟩ := h
 injection e with e1 e2 e3
 subst e1 e3
 obtain ⟨b, off, rfl, hb⟩ := By.of hr (by omega)
 exact ⟨b, off, rfl, (hb.drop i).take 12 (by rw [List.length_drop]; omega), hc⟩
end
end Go.Proofs.YtljlanhpjpjgaaaGreatDoor
