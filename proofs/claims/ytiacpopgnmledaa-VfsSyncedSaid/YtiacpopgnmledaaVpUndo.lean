/-
  CONTRACTS: the program's files as an object: an act is undone.
-/
import Derived.Test.YtiacpopgnmledaaVpRead
import Derived.Deep.RegionLaw
namespace Go.Proofs.Ytiacpopgnmledaa
open Go.RowKit
open Me Vf
namespace Me
theorem step_copy_bs {P : Program} {w : World} {ops : Array Oper} {o : Oper} {a : Act} {K : Act → World → Prop} {Q : Exit → Act → World → Prop} {E : Prop} (hgd : o.guard = none) (d s : Operand) (dT sT : TypeId)
    (ho : o.op = .call { callee := .builtin .copy, args := #[d, s], argTypes := #[dT, sT] }) (elem : TypeId) (hu : P.underlying dT = some (.slice elem)) (hsz : (P.info? elem).map (·.size) = some 1)
    (dp sp : Option Addr) (dLen dCap sLen sCap : Nat) (hd : a.eval d = .slice dp dLen dCap) (hs : a.eval s = .slice sp sLen sCap)
    (g off : Nat) (cur p : List UInt8) (t : TypeId) (hg : w.heap[g]? = some (.cells (by8 cur).toArray t (0, 0))) (hp : p.length = Nat.min sLen dLen)
    (hpos : 0 < p.length → dp = some ⟨g, off, none⟩) (G : Nat → Prop) (hr : Rd w G sp (by8 p)) (hfit : off + p.length ≤ cur.length)
    (h : ∀ w', Hid (w'.heap[g]? = some (.cells (by8 (upd cur off p)).toArray t (0, 0))) → Kp (fun b => b = g) w w' → Hid (w'.heap.size = w.heap.size) → K (a.put o.dst (goInt p.length)) w') :
    if Region.wanted o (yielded ops a.tmps) = true then Oper.wp P o a w K Q else E := by
  have hw : Region.wanted o (yielded ops a.tmps) = true := by simp [Region.wanted, hgd]
  rw [if_pos hw]
  exact wp_copy_bs d s dT sT ho elem hu hsz dp sp dLen dCap sLen sCap hd hs g off cur p t hg hp hpos G hr hfit h
theorem rd_from {w : World} {G : Nat → Prop} {A : Option Addr} {l : List UInt8} {s c : Nat} (h : Rd w G A (by8 l)) (hc : l.length ≤ c) : Rd w G (if c = s then A else Option.map (fun x => x.add s) A) (by8 (l.drop s)) := by
  by_cases hq : l.length ≤ s
  · rw [List.drop_eq_nil_of_le hq]
    exact Rd.none_ _ _ _
  · rw [if_neg (by omega)]
    intro hn
    obtain ⟨ad, rfl, h2⟩ := h (by rintro e; apply hn; rw [← by8_drop, e]; simp)
    have := (Rd.sub (w := w) (G := G) (ad := ad) (xs := by8 l) (fun _ => ⟨ad, rfl, h2⟩) s (l.length - s))
    rw [by8_drop, List.take_of_length_le (by rw [by8_len, List.length_drop]; omega)] at this
    exact this hn
end Me
/-- What undo leaves. -/
def Vp.Undone (w : World) (fs : Nat) (mb lr : Option Nat) (I : Nat → Prop) (db : Nat → Nat) (G : Nat → Prop) (room : Int) (c : Vp.Co) (j : List Vp.Op) (N : Nat) (lv : Value) (ys : List Value) (e : Ending) (w' : World) : Prop :=
  e = .returned (.tuple #[]) ∧ ∃ mb' mv', Vp.Pt w' fs mb' lr I db G room c j N lv mv' ys ∧ Kp (Vp.Own fs mb lr I db G) w w' ∧ (mb' = mb ∨ ∃ b, mb' = some b ∧ w.heap.size ≤ b)

set_option maxRecDepth 100000 in
set_option maxHeartbeats 1600000 in
theorem undo_any {w : World} {fs : Nat} {mb lr : Option Nat} {I : Nat → Prop} {db : Nat → Nat} {G : Nat → Prop} {room : Int} {c : Vp.Co} {j : List Vp.Op} {N : Nat} {lv mv v : Value} {ys : List Value} {o : Vp.Op} (h : Vp.Pt w fs mb lr I db G room c j N lv mv ys)
    (hL : Vp.Live I c (o :: j)) (hs : ∃ b, mb = some b) (hold : Bs w G v o.old) (hkd : o.kind = 1 ∨ o.kind = 2 ∨ o.kind = 3) (hfit : o.kind = 2 → o.at_ + o.old.length ≤ (c.sto o.on).b.length) (hN : N ≤ 1048576) (u0 : -1099511627776 ≤ c.used) (u1 : c.used ≤ 1099511627776) (m : Int) :
    Calls Try.prog 39 #[.pointer (some ⟨fs, 0, none⟩), .agg #[.int .i64 o.kind, .pointer (some ⟨o.on, 0, none⟩), .int .i64 (o.at_ : Int), v], .int .i64 m] w (Vp.Undone w fs mb lr I db G room (c.undo o m) j (N + 1) lv ys) := by
  obtain ⟨k, hk, hm⟩ := h.map
  have hon := hL.2 o (by simp)
  obtain ⟨f1, f2, f3, f4⟩ := h.file o.on hon
  obtain ⟨A, cc, rfl, hcc, hccm, hrd⟩ := hold
  obtain ⟨b, rfl⟩ := hs
  have hbx : ∀ X : Obj, Below w.heap.size w (w.alloc X) := fun X => (Below.refl _ _).alloc (Nat.le_refl _) _
  have hmk : ∀ X : Obj, Vp.Mp (w.alloc X) mv (some b) k c.map := fun X => hm.keep (fun b hb => (hbx X).block b (hm.lt hb).1)
  have hH : ∀ X : Obj, Vp.Pt (w.alloc X) fs (some b) lr I db G room c j N lv mv ys := fun X => h.below (hbx X)
  rcases hkd with hkd | hkd | hkd
  · have HD := Lib.hid (fun X : Obj => drop_any (w := w.alloc X) (hH X).heap (hmk X) ((hH X).file o.on hon).1 (by omega) (by omega) (by omega) (by omega))
    have HEND : Hid (∀ (X : Obj) (w2 : World), Vp.Putten (w.alloc X) fs (some b) k lv room (c.used - (c.sto o.on).b.length) (Vp.setM c.map (c.sto o.on).name none) (.returned (.tuple #[])) w2 → Vp.Undone w fs (some b) lr I db G room (c.undo o m) j (N + 1) lv ys (.returned (.tuple #[])) w2) := Lib.hid fun X w2 hp => by
      have hL2 := hL.undo (o := o) m
      rw [Vp.undo_one hkd] at hL2
      obtain ⟨mb', mv', p1, p2, p3⟩ := (hH X).putten (N' := N + 1) hp (by omega) hL2
      refine ⟨rfl, mb', mv', ?_, (Kp.of_below (hbx X)).trans p2 (fun i hi e => ?_), p3.imp id (fun ⟨b', e, h⟩ => ⟨b', e, Nat.le_trans (hbx X).size h⟩)⟩
      · rw [Vp.undo_one hkd]; exact p1
      · rcases e with e | e
        · exact .inl e
        · exact .inr (.inl e)
    clear h hL hfit hm hmk hH f1 f2 f3 f4 hbx hrd hon
    rw [hkd]
    go_enter Try.func39, Try.ntmps39
    go_wp2_with (go_at_call 52; (with_reducible refine (HD.out _).mono ?_); rintro e w2 hp; obtain rfl := hp.1; have HP := Lib.hid hp; clear hp)
    ((try simp only [Exit.inBlock, Exit.then]); first | (refine bodyPost_ret (results_none rfl _ _ _) rfl ?_) | (refine bodyPost_end (results_none rfl _ _ _) rfl ?_))
    exact HEND.out _ _ HP.out
  · have hfit := hfit hkd
    unfold maxLen at hccm
    obtain ⟨s, hs⟩ : ∃ s, s = Vp.stay o m := ⟨_, rfl⟩
    have hsl : s ≤ o.old.length := by rw [hs]; unfold Vp.stay; omega
    have hX := hH (.cells #[.int .i64 2, .pointer (some ⟨o.on, 0, none⟩), .int .i64 (o.at_ : Int), .slice A o.old.length cc] 73)
    have hXB := hbx (.cells #[.int .i64 2, .pointer (some ⟨o.on, 0, none⟩), .int .i64 (o.at_ : Int), .slice A o.old.length cc] 73)
    have hlt : o.on < w.heap.size := h.lt (.inr (.inr (.inr (.inl hon))))
    obtain ⟨W, hW⟩ : ∃ W, W = w.alloc (.cells #[.int .i64 2, .pointer (some ⟨o.on, 0, none⟩), .int .i64 (o.at_ : Int), .slice A o.old.length cc] 73) := ⟨_, rfl⟩
    have hnew : W.heap[w.heap.size]? = some (.cells #[.int .i64 2, .pointer (some ⟨o.on, 0, none⟩), .int .i64 (o.at_ : Int), .slice A o.old.length cc] 73) := by rw [hW]; exact heap_alloc_new w _
    rw [← hW] at hX hXB
    obtain ⟨x1, x2, _, _⟩ := hX.file o.on hon
    obtain ⟨e0, e1, _⟩ := Vp.fl_cells x1
    have hdrop : (o.old.drop s).length = o.old.length - s := by rw [List.length_drop]
    have HMin : Hid ((o.old.drop s).length = Nat.min (o.old.length - s) ((c.sto o.on).b.length - (o.at_ + s))) := Lib.hid (by rw [hdrop]; exact (Nat.min_eq_left (by omega)).symm)
    have HFIT : Hid (o.at_ + s + (o.old.drop s).length ≤ (c.sto o.on).b.length) := Lib.hid (by rw [hdrop]; omega)
    have HPOS : Hid (0 < (o.old.drop s).length → (if (c.sto o.on).b.length = o.at_ + s then some (⟨db o.on, 0, none⟩ : Addr) else some ⟨db o.on, o.at_ + s, none⟩) = some ⟨db o.on, o.at_ + s, none⟩) := Lib.hid (fun h => by rw [hdrop] at h; rw [if_neg (by omega)])
    obtain ⟨A9, hA9⟩ : ∃ A9, A9 = (if cc = s then A else Option.map (fun x => x.add s) A) := ⟨_, rfl⟩
    have HRD : Hid (Rd W G A9 (by8 (o.old.drop s))) := Lib.hid (hA9 ▸ rd_from (hrd.below hXB) hcc)
    have HX2 := Lib.hid x2
    have HEND : Hid (∀ w2 : World, w2.heap[db o.on]? = some (Vp.btC (upd (c.sto o.on).b (o.at_ + s) (o.old.drop s))) → Kp (fun i => i = db o.on) W w2 → Vp.Undone w fs (some b) lr I db G room (c.undo o m) j (N + 1) lv ys (.returned (.tuple #[])) w2) := Lib.hid fun w2 hd2 hk2 => by
      refine ⟨rfl, some b, mv, ?_, (Kp.of_below hXB).trans hk2 (fun i hi e => .inr (.inr (.inr (.inr (.inl ⟨o.on, hon, e.symm⟩))))), .inl rfl⟩
      rw [Vp.undo_two hkd, ← hs]
      have hp := hX.filled hon (o := o.at_ + s) (b := o.old.drop s) (by rw [hdrop]; omega) hd2 hk2
      exact hp.more (Nat.le_succ _)
    have hbl : ((c.sto o.on).b.length : Int) ≤ 1073741824 := by omega
    have hw1 : IntKind.i64.wrap ((o.at_ : Int) + (s : Int)) = (o.at_ : Int) + (s : Int) := IntWalk.i64_in _ (by omega)
    have hw3 : ((o.at_ : Int) + (s : Int)).toNat = o.at_ + s := by omega
    have b1 : (0 : Int) ≤ (o.at_ : Int) + (s : Int) := by omega
    have b2 : (o.at_ : Int) + (s : Int) ≤ ((c.sto o.on).b.length : Int) := by omega
    have b3 : (s : Int) ≤ (o.old.length : Int) := by omega
    have b4 : (s : Int) ≤ (cc : Int) := by omega
    have b5 : s ≤ cc := by omega
    have b6 : o.at_ + s ≤ (c.sto o.on).b.length := by omega
    have HS := Lib.hid hs
    have HW := Lib.hid hW
    have HSM : Hid (min (max m 0) (o.old.length : Int) = (s : Int)) := Lib.hid (by rw [hs]; unfold Vp.stay; omega)
    have q1 : W.cell? ⟨w.heap.size, 1, none⟩ = some (.pointer (some ⟨o.on, 0, none⟩)) := by rw [cell_of_row W _ 1 _ _ _ hnew]; rfl
    have q2 : W.cell? ⟨w.heap.size, 2, none⟩ = some (.int .i64 (o.at_ : Int)) := by rw [cell_of_row W _ 2 _ _ _ hnew]; rfl
    have q3 : W.cell? ⟨w.heap.size, 3, none⟩ = some (.slice A o.old.length cc) := by rw [cell_of_row W _ 3 _ _ _ hnew]; rfl
    clear h hL hfit hm hmk hH f1 f2 f3 f4 hbx hrd hon hX hXB x1 x2 e0 hdrop hs hW hnew
    rw [hkd]
    go_enter Try.func39, Try.ntmps39
    go_wp2_with fail
    rw [← HW.out, HSM.out]
    go_region_law (refine step_copy_bs rfl (.tmp 31) (.tmp 35) 40 40 rfl 5 Try.underlying40 sizeU8 (if (c.sto o.on).b.length = o.at_ + s then some ⟨db o.on, 0, none⟩ else some ⟨db o.on, o.at_ + s, none⟩) A9 ((c.sto o.on).b.length - (o.at_ + s)) ((c.sto o.on).b.length - (o.at_ + s)) (o.old.length - s) (cc - s) (by simp [Act.eval, Act.put]) (by simp [Act.eval, Act.put, hA9]) (db o.on) (o.at_ + s) _ (o.old.drop s) 5 HX2.out HMin.out HPOS.out G HRD.out HFIT.out ?_; intro w2 hd2 hk2 hs2)
    all_goals
      go_wp2_with fail
      all_goals
        ((try simp only [Exit.inBlock, Exit.then]); first | (refine bodyPost_ret (results_none rfl _ _ _) rfl ?_) | (refine bodyPost_end (results_none rfl _ _ _) rfl ?_))
        exact HEND.out _ hd2.out ⟨hk2.os, hk2.tape, hk2.output, hk2.size, hk2.block⟩
  · have HD := Lib.hid (fun X : Obj => put_any (w := w.alloc X) (hH X).heap (hmk X) ((hH X).file o.on hon).1 (by omega) (by omega) (by omega) (by omega) (by omega))
    have HEND : Hid (∀ (X : Obj) (w2 : World), Vp.Putten (w.alloc X) fs (some b) (k + 1) lv room (c.used + (c.sto o.on).b.length) (Vp.setM c.map (c.sto o.on).name (some o.on)) (.returned (.tuple #[])) w2 → Vp.Undone w fs (some b) lr I db G room (c.undo o m) j (N + 1) lv ys (.returned (.tuple #[])) w2) := Lib.hid fun X w2 hp => by
      have hL2 := hL.undo (o := o) m
      rw [Vp.undo_three hkd] at hL2
      obtain ⟨mb', mv', p1, p2, p3⟩ := (hH X).putten (N' := N + 1) hp (by omega) hL2
      refine ⟨rfl, mb', mv', ?_, (Kp.of_below (hbx X)).trans p2 (fun i hi e => ?_), p3.imp id (fun ⟨b', e, h⟩ => ⟨b', e, Nat.le_trans (hbx X).size h⟩)⟩
      · rw [Vp.undo_three hkd]; exact p1
      · rcases e with e | e
        · exact .inl e
        · exact .inr (.inl e)
    clear h hL hfit hm hmk hH f1 f2 f3 f4 hbx hrd hon
    rw [hkd]
    go_enter Try.func39, Try.ntmps39
    go_wp2_with (go_at_call 44; (with_reducible refine (HD.out _).mono ?_); rintro e w2 hp; obtain rfl := hp.1; have HP := Lib.hid hp; clear hp)
    ((try simp only [Exit.inBlock, Exit.then]); first | (refine bodyPost_ret (results_none rfl _ _ _) rfl ?_) | (refine bodyPost_end (results_none rfl _ _ _) rfl ?_))
    exact HEND.out _ _ HP.out
end Go.Proofs.Ytiacpopgnmledaa
