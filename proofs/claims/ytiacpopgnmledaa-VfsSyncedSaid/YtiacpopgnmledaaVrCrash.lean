/-
  CONTRACTS: the document's own files as an object: a crash.
-/
import Derived.Test.YtiacpopgnmledaaVrActs
namespace Go.Proofs.Ytiacpopgnmledaa
open Go.RowKit
open Me

namespace Vf
/-- Acts done one after another. -/
def rep (was : List Fl) (l : List Ac) : List Fl := l.foldl does was
theorem rep_take (was : List Fl) (l : List Ac) (k : Nat) (h : k < l.length) : rep was (l.take (k + 1)) = does (rep was (l.take k)) l[k] := by
  unfold rep
  rw [List.take_succ_eq_append_getElem h, List.foldl_append]
  rfl
/-- How much of a torn write is done. -/
def torn (a : Ac) (m : Int) : Nat := (max 0 (min m (a.p.length : Int))).toNat
def cut (a : Ac) (m : Int) : Ac := { a with p := a.p.take (torn a m) }
def crash (S : Sv) (n m : Int) : List Fl := match S.l[n.toNat]? with
  | some a => if a.kind = 2 then does (rep S.was (S.l.take n.toNat)) (cut a m) else rep S.was (S.l.take n.toNat)
  | none => rep S.was S.l
theorem crash_all {S : Sv} {n m : Int} (h : S.l.length ≤ n.toNat) : crash S n m = rep S.was S.l := by
  unfold crash
  rw [List.getElem?_eq_none h]
theorem crash_clean {S : Sv} {n m : Int} {k : Nat} (hk : n.toNat = k) (h : k < S.l.length) (hn : ¬ S.l[k].kind = 2) : crash S n m = rep S.was (S.l.take k) := by
  subst hk
  unfold crash
  rw [List.getElem?_eq_getElem h]
  simp [hn]
theorem crash_torn {S : Sv} {n m : Int} {k : Nat} (hk : n.toNat = k) (h : k < S.l.length) (hn : S.l[k].kind = 2) : crash S n m = does (rep S.was (S.l.take k)) (cut S.l[k] m) := by
  subst hk
  unfold crash
  rw [List.getElem?_eq_getElem h]
  simp [hn]
/-- All that a replay meets is fit to be done. -/
def Sound (S : Sv) : Prop := ∀ k, k ≤ S.l.length → (rep S.was (S.l.take k)).length ≤ 1048576 ∧ (∀ f ∈ rep S.was (S.l.take k), f.b.length ≤ 4294967296) ∧ ∀ h : k < S.l.length, fits (rep S.was (S.l.take k)) S.l[k] ∧ S.l[k].off ≤ 4294967296
theorem fits_cut {l : List Fl} {a : Ac} (m : Int) (h : fits l a) : fits l (cut a m) := by
  intro hk k hkl e
  have := h hk k hkl e
  have h2 : (cut a m).p.length ≤ a.p.length := by unfold cut; simp; omega
  have h3 : (cut a m).off = a.off := rfl
  omega
theorem _root_.Go.Proofs.Ytiacpopgnmledaa.Me.Bs.take {w : World} {G : Nat → Prop} {A : Option Addr} {n c : Nat} {l : List UInt8} (h : Bs w G (.slice A n c) l) (d : Nat) (hd : d ≤ l.length) : Bs w G (.slice A d c) (l.take d) := by
  obtain ⟨A2, c2, e, h1, h2, h3⟩ := h
  injection e with e1 e2 e3
  subst e1 e3
  refine ⟨A, c, by rw [List.length_take, Nat.min_eq_left hd], by rw [List.length_take]; omega, h2, fun hn => ?_⟩
  obtain ⟨ad, ea, hl, hg, hc⟩ := h3 (by rintro e; apply hn; unfold by8 at e ⊢; rw [List.map_take, e]; simp)
  refine ⟨ad, ea, hl, hg, fun j u hu => hc j u ?_⟩
  rw [← by8_take, List.getElem?_take] at hu
  split at hu
  · exact hu
  · cases hu
/-- An act in its place. -/
theorem At.nth {w : World} {G : Nat → Prop} {fs : Nat} {lr : Option Nat} {S : Sv} {nv wv lv : Value} {ys : List Value} (h : At w G fs lr S nv wv lv ys) (k : Nat) (hk : k < S.l.length) :
    ∃ g cap A2 c2, lv = .slice (some ⟨g, 0, none⟩) S.l.length cap ∧ S.l.length ≤ cap ∧ cap ≤ maxLen ∧ g < w.heap.size ∧ w.cell? ⟨g, k * 4, none⟩ = some (.int .i64 S.l[k].kind) ∧ w.cell? ⟨g, k * 4 + 1, none⟩ = some (.string ⟨(S.l[k].name).toArray⟩) ∧ w.cell? ⟨g, k * 4 + 2, none⟩ = some (.int .i64 (S.l[k].off : Int)) ∧
      w.cell? ⟨g, k * 4 + 3, none⟩ = some (.slice A2 (S.l[k].p).length c2) ∧ Bs w G (.slice A2 (S.l[k].p).length c2) S.l[k].p := by
  have hown := h.own
  rcases h.own.2 with ⟨_, h0⟩ | ⟨g, cap, cur, rfl, hb, hg, hnc, hcm, hcs, ht⟩
  · omega
  · obtain ⟨cs, hcs4, hx⟩ := h.acts.get AcC.four k hk
    obtain ⟨pv, rfl, hbs⟩ := hcs4
    have hb2 := hbs
    obtain ⟨A2, c2, rfl, _, _, _⟩ := hbs
    have hlen : ys.length = S.l.length * 4 := hown.1
    obtain ⟨ad, hA, hlt, _, hcell⟩ := (Rd.own hown).at_ (k * 4) (by omega)
    obtain rfl := Option.some.inj hA
    have hc : ∀ j u, ([.int .i64 S.l[k].kind, .string ⟨(S.l[k].name).toArray⟩, .int .i64 (S.l[k].off : Int), .slice A2 (S.l[k].p).length c2] : List Value)[j]? = some u → j < 4 → w.cell? ⟨g, k * 4 + j, none⟩ = some u := fun j u hu hj => by
      have := hcell (k * 4 + j) u ((hx j hj).trans hu)
      rwa [Addr.add_lit, Nat.zero_add] at this
    exact ⟨g, cap, A2, c2, rfl, hnc, hcm, hlt, hc 0 _ rfl (by omega), hc 1 _ rfl (by omega), hc 2 _ rfl (by omega), hc 3 _ rfl (by omega), hb2⟩
end Vf

theorem crash_end {w W : World} {G : Nat → Prop} {fs : Nat} {lr : Option Nat} {S : Vf.Sv} {nv wv lv v : Value} {ys : List Value} {r : List Vf.Fl} (h : Vf.At w G fs lr S nv wv lv ys) (hb : Below w.heap.size w W) (hr : Vf.Fs W (fun b => G b ∨ w.heap.size ≤ b) v r) :
    ∃ G', Vf.At (((W.setCell ⟨fs, 1, none⟩ v).setCell ⟨fs, 2, none⟩ v).setCell ⟨fs, 3, none⟩ (.slice none 0 0)) G' fs none ⟨S.room, r, r, []⟩ v v (.slice none 0 0) [] ∧ Kp (fun b => b = fs) w (((W.setCell ⟨fs, 1, none⟩ v).setCell ⟨fs, 2, none⟩ v).setCell ⟨fs, 3, none⟩ (.slice none 0 0)) ∧ ∀ b, G' b → G b ∨ w.heap.size ≤ b := by
  have hfl := h.fsLt
  have hw := hb.size
  have hs : (((W.setCell ⟨fs, 1, none⟩ v).setCell ⟨fs, 2, none⟩ v).setCell ⟨fs, 3, none⟩ (.slice none 0 0)).heap.size = W.heap.size := by rw [put_size, put_size, put_size]
  have hk : ∀ b, b < W.heap.size → (G b ∨ w.heap.size ≤ b) ∧ b < W.heap.size → (((W.setCell ⟨fs, 1, none⟩ v).setCell ⟨fs, 2, none⟩ v).setCell ⟨fs, 3, none⟩ (.slice none 0 0)).heap[b]? = W.heap[b]? := fun b _ hg => by
    have hne : b ≠ fs := by
      rcases hg.1 with h1 | h1
      · exact fun e => h.gfs (e ▸ h1)
      · omega
    rw [Below.heap_setCell _ ⟨fs, 3, none⟩ _ b hne, Below.heap_setCell _ ⟨fs, 2, none⟩ _ b hne, Below.heap_setCell _ ⟨fs, 1, none⟩ _ b hne]
  have hr2 := (hr.wide (G' := fun b => (G b ∨ w.heap.size ≤ b) ∧ b < W.heap.size) (fun b hb' hg => ⟨hg, hb'⟩)).keep (by omega) hk
  refine ⟨fun b => (G b ∨ w.heap.size ≤ b) ∧ b < W.heap.size, ⟨?_, hr2, hr2, World.ownsRow_nil _ _ _ _, rfl, rfl, ?_, (fun g h => nomatch h), fun b hb' => by rw [hs]; exact hb'.2⟩, (((Kp.of_below (O := fun b => b = fs) hb).setCell ⟨fs, 1, none⟩ (.inr rfl) _).setCell ⟨fs, 2, none⟩ (.inr rfl) _).setCell ⟨fs, 3, none⟩ (.inr rfl) _, fun b hb' => hb'.1⟩
  · rw [put_heap (put_heap (put_heap ((hb.block fs hfl).trans h.heap) _) _)]
    rfl
  · rintro ⟨h1 | h1, _⟩
    · exact h.gfs h1
    · omega

/-- What a crash leaves. -/
def Vf.Crashed (w : World) (G : Nat → Prop) (fs : Nat) (S : Vf.Sv) (r : List Vf.Fl) (e : Ending) (w' : World) : Prop :=
  e = .returned (.tuple #[]) ∧ ∃ G' v, Vf.At w' G' fs none ⟨S.room, r, r, []⟩ v v (.slice none 0 0) [] ∧ Kp (fun b => b = fs) w w' ∧ ∀ b, G' b → G b ∨ w.heap.size ≤ b
theorem crash_done {w W : World} {G : Nat → Prop} {fs : Nat} {lr : Option Nat} {S : Vf.Sv} {nv wv lv v : Value} {ys : List Value} {r r' : List Vf.Fl} (h : Vf.At w G fs lr S nv wv lv ys) (hb : Below w.heap.size w W) (hr : Vf.Fs W (fun b => G b ∨ w.heap.size ≤ b) v r) (e : r' = r) :
    Vf.Crashed w G fs S r' (.returned (.tuple #[])) (((W.setCell ⟨fs, 1, none⟩ v).setCell ⟨fs, 2, none⟩ v).setCell ⟨fs, 3, none⟩ (.slice none 0 0)) := by
  subst e
  obtain ⟨G', p1, p2, p3⟩ := crash_end h hb hr
  exact ⟨rfl, G', v, p1, p2, p3⟩

set_option maxHeartbeats 1600000 in
theorem crash_any {w : World} {G : Nat → Prop} {fs : Nat} {lr : Option Nat} {S : Vf.Sv} {nv wv lv : Value} {ys : List Value} (h : Vf.At w G fs lr S nv wv lv ys) (n m : Int) (hll : S.l.length ≤ 1048576) (hok : Hid (Vf.Sound S)) :
    Calls Try.prog 26 #[.pointer (some ⟨fs, 0, none⟩), .int .i64 n, .int .i64 m] w (Vf.Crashed w G fs S (Vf.crash S n m)) := by
  obtain ⟨c0, c1, c2, c3, hf⟩ := h.cells
  have hfl := h.fsLt
  have H := Lib.hid h
  have hl' : (S.l.length : Int) ≤ 1048576 := by omega
  have hf1 := hf 1
  have hf2 := hf 2
  have hf3 := hf 3
  have hwas := h.was
  obtain ⟨A0, c00, xs0, hnv, _⟩ := h.was
  subst hnv
  have HD : Hid (∀ (W : World) (I : Nat → Prop) (v pv : Value) (k : Nat) (hk : k < S.l.length), Vf.Fs W I v (Vf.rep S.was (S.l.take k)) → Bs W I pv S.l[k].p → Calls Try.prog 53 #[v, .agg #[.int .i64 S.l[k].kind, .string ⟨(S.l[k].name).toArray⟩, .int .i64 (S.l[k].off : Int), pv]] W (Vf.MadeF I W (Vf.rep S.was (S.l.take (k + 1))))) :=
    Lib.hid fun W I v pv k hk h1 h2 => by
      rw [Vf.rep_take S.was S.l k hk]
      obtain ⟨o1, o2, o3⟩ := hok.out k (by omega)
      exact does_any _ S.l[k] v pv I W h1 h2 o1 (Lib.hid (o3 hk).1) (Lib.hid o2) (o3 hk).2
  have HT : Hid (∀ (W : World) (I : Nat → Prop) (v pv : Value) (k : Nat) (hk : k < S.l.length), S.l[k].kind = 2 → Vf.Fs W I v (Vf.rep S.was (S.l.take k)) → Bs W I pv (Vf.cut S.l[k] m).p → Calls Try.prog 53 #[v, .agg #[.int .i64 2, .string ⟨(S.l[k].name).toArray⟩, .int .i64 (S.l[k].off : Int), pv]] W (Vf.MadeF I W (Vf.does (Vf.rep S.was (S.l.take k)) (Vf.cut S.l[k] m)))) :=
    Lib.hid fun W I v pv k hk h0 h1 h2 => by
      obtain ⟨o1, o2, o3⟩ := hok.out k (by omega)
      have := does_any _ (Vf.cut S.l[k] m) v pv I W h1 h2 o1 (Lib.hid (Vf.fits_cut m (o3 hk).1)) (Lib.hid o2) (o3 hk).2
      rw [show (Vf.cut S.l[k] m).kind = 2 from h0] at this
      exact this
  have HWS := Lib.hid hwas
  clear h hf hwas
  go_enter Try.func26, Try.ntmps26
  go_wp2_with fail
  go_loopw [6, 7] (fun v i wr => ∃ (k : Nat) (A : Option Addr) (c : Nat), k ≤ S.l.length ∧ k ≤ n.toNat ∧ i = .int .i64 k ∧ .slice A (Vf.rep S.was (S.l.take k)).length c = v ∧ Hid (Vf.Fs wr (fun b => G b ∨ w.heap.size ≤ b) (.slice A (Vf.rep S.was (S.l.take k)).length c) (Vf.rep S.was (S.l.take k))) ∧ Below w.heap.size w wr) (fun _ i _ => S.l.length - (intOf i).toNat)
  case atStart => exact ⟨0, A0, c00, Nat.zero_le _, Nat.zero_le _, rfl, rfl, Lib.hid (HWS.out.wide (fun _ _ h => .inl h)), Below.refl _ _⟩
  case round =>
    obtain ⟨k, A, c, hk, hkn, rfl, rfl, hfs, hbel⟩ := hrel
    have d3 := (hbel.cell (p := ⟨fs, 3, none⟩) hfl).trans c3
    have d2 := (hbel.cell (p := ⟨fs, 2, none⟩) hfl).trans c2
    have d1 := (hbel.cell (p := ⟨fs, 1, none⟩) hfl).trans c1
    have e1 := (hbel.frozen (p := ⟨fs, 1, none⟩) hfl).trans hf1
    have e2 := (hbel.frozen (p := ⟨fs, 2, none⟩) hfl).trans hf2
    have e3 := (hbel.frozen (p := ⟨fs, 3, none⟩) hfl).trans hf3
    by_cases hlt : k < S.l.length
    · obtain ⟨g, cap, A2, c2', rfl, hc, hcm, hgl, g0, g1, g2, g3, hbs⟩ := (H.out.below hbel).nth k hlt
      unfold maxLen at hcm
      have HB := Lib.hid (hbs.mono (G' := fun b => G b ∨ w.heap.size ≤ b) (fun _ _ h => .inl h))
      by_cases hn : (k : Int) < n
      · have HC := Lib.hid (HD.out wr _ _ _ k hlt hfs.out HB.out)
        clear HD HT hbs
        go_wp2_with (go_at_call 53; (with_reducible refine (HC.out).mono ?_); rintro e w1 ⟨v1, rfl, hfs1, hb1⟩; have HF1 := Lib.hid hfs1; obtain ⟨A1, cc1, xs1, rfl, _⟩ := hfs1)
        go_roundw
        case rel =>
          refine ⟨k + 1, A1, cc1, by omega, by omega, by go_num, rfl, Lib.hid (HF1.out.wide (fun b _ hj => ?_)), hbel.trans (hb1.mono hbel.size)⟩
          rcases hj with (h1 | h1) | h1
          · exact .inl h1
          · exact .inr h1
          · exact .inr (Nat.le_trans hbel.size h1)
        case measure => simp [intOf]; omega
      · have hq : n.toNat = k := by omega
        rcases (show (n ≤ 0 ∧ k = 0) ∨ 0 < n by omega) with ⟨hn0, hk0⟩ | hn0
        · have z0 := (congrArg (fun t => wr.cell? ⟨g, t, none⟩) (show 0 = k * 4 by omega)).trans g0
          have z1 := (congrArg (fun t => wr.cell? ⟨g, t, none⟩) (show 1 = k * 4 + 1 by omega)).trans g1
          have z2 := (congrArg (fun t => wr.cell? ⟨g, t, none⟩) (show 2 = k * 4 + 2 by omega)).trans g2
          have z3 := (congrArg (fun t => wr.cell? ⟨g, t, none⟩) (show 3 = k * 4 + 3 by omega)).trans g3
          clear hk0
          by_cases h2 : S.l[k].kind = 2
          · have HR := Lib.hid (Vf.crash_torn (m := m) hq hlt h2)
            have hk2 : (S.l[k].kind == 2) = true := by simpa using h2
            have hpc : (S.l[k].p).length ≤ c2' := by
              obtain ⟨_, _, e, h1, _, _⟩ := hbs
              injection e with _ _ e3
              omega
            have hpm : c2' ≤ maxLen := by
              obtain ⟨_, _, e, _, h1, _⟩ := hbs
              injection e with _ _ e3
              omega
            unfold maxLen at hpm
            clear HD hbs
            by_cases m0 : m ≤ 0
            · have hdl : 0 ≤ (S.l[k].p).length := Nat.zero_le _
              have HTK : Hid (Vf.torn S.l[k] m = 0 ∧ (S.l[k].p).take 0 = (Vf.cut S.l[k] m).p) := Lib.hid (by
                have : Vf.torn S.l[k] m = 0 := by unfold Vf.torn; omega
                exact ⟨this, by unfold Vf.cut; rw [this]⟩)
              have HTA : Hid (∀ o : Obj, Calls Try.prog 53 #[.slice A (Vf.rep S.was (S.l.take k)).length c, .agg #[.int .i64 2, .string ⟨(S.l[k].name).toArray⟩, .int .i64 (S.l[k].off : Int), .slice A2 0 c2']] (wr.alloc o) (Vf.MadeF (fun b => G b ∨ w.heap.size ≤ b) (wr.alloc o) (Vf.does (Vf.rep S.was (S.l.take k)) (Vf.cut S.l[k] m)))) := Lib.hid fun o => HT.out (wr.alloc o) _ _ _ k hlt h2 (hfs.out.keep (by simp) (fun b hb _ => Below.heap_alloc wr o b hb)) ((HTK.out.2 ▸ HB.out.take 0 hdl).keep (by simp) (fun b hb _ => Below.heap_alloc wr o b hb))
              clear HT
              go_wp2_with (go_at_call 53; (with_reducible refine (HTA.out _).mono ?_); rintro e w1 ⟨v1, rfl, hfs1, hb1⟩; have HF1 := Lib.hid hfs1; obtain ⟨A1, cc1, xs1, rfl, _⟩ := hfs1; have hbw1 := (hbel.alloc hbel.size _).trans (hb1.mono (by have := hbel.size; simp; omega)); have d1' := (hbw1.cell (p := ⟨fs, 1, none⟩) hfl).trans c1; have d2' := (hbw1.cell (p := ⟨fs, 2, none⟩) hfl).trans c2; have d3' := (hbw1.cell (p := ⟨fs, 3, none⟩) hfl).trans c3; have e1' := (hbw1.frozen (p := ⟨fs, 1, none⟩) hfl).trans hf1; have e2' := (hbw1.frozen (p := ⟨fs, 2, none⟩) hfl).trans hf2; have e3' := (hbw1.frozen (p := ⟨fs, 3, none⟩) hfl).trans hf3)
              ((try simp only [Exit.inBlock, Exit.then]); first | (refine bodyPost_ret (results_none rfl _ _ _) rfl ?_) | (refine bodyPost_end (results_none rfl _ _ _) rfl ?_))
              exact crash_done H.out hbw1 (HF1.out.wide (fun b _ hj => by
                rcases hj with (h1 | h1) | h1
                · exact .inl h1
                · exact .inr h1
                · exact .inr (Nat.le_trans hbel.size (Nat.le_trans (by simp) h1)))) HR.out
            · obtain ⟨d, rfl⟩ : ∃ d : Nat, m = (d : Int) := ⟨m.toNat, by omega⟩
              by_cases hp0 : (S.l[k].p).length = 0
              · have hdl : 0 ≤ (S.l[k].p).length := Nat.zero_le _
                have HTK : Hid (Vf.torn S.l[k] (d : Int) = 0 ∧ (S.l[k].p).take 0 = (Vf.cut S.l[k] (d : Int)).p) := Lib.hid (by
                  have : Vf.torn S.l[k] (d : Int) = 0 := by unfold Vf.torn; omega
                  exact ⟨this, by unfold Vf.cut; rw [this]⟩)
                have HTA : Hid (∀ o : Obj, Calls Try.prog 53 #[.slice A (Vf.rep S.was (S.l.take k)).length c, .agg #[.int .i64 2, .string ⟨(S.l[k].name).toArray⟩, .int .i64 (S.l[k].off : Int), .slice A2 0 c2']] (wr.alloc o) (Vf.MadeF (fun b => G b ∨ w.heap.size ≤ b) (wr.alloc o) (Vf.does (Vf.rep S.was (S.l.take k)) (Vf.cut S.l[k] (d : Int))))) := Lib.hid fun o => HT.out (wr.alloc o) _ _ _ k hlt h2 (hfs.out.keep (by simp) (fun b hb _ => Below.heap_alloc wr o b hb)) ((HTK.out.2 ▸ HB.out.take 0 hdl).keep (by simp) (fun b hb _ => Below.heap_alloc wr o b hb))
                clear HT
                go_wp2_with (go_at_call 53; (with_reducible refine (HTA.out _).mono ?_); rintro e w1 ⟨v1, rfl, hfs1, hb1⟩; have HF1 := Lib.hid hfs1; obtain ⟨A1, cc1, xs1, rfl, _⟩ := hfs1; have hbw1 := (hbel.alloc hbel.size _).trans (hb1.mono (by have := hbel.size; simp; omega)); have d1' := (hbw1.cell (p := ⟨fs, 1, none⟩) hfl).trans c1; have d2' := (hbw1.cell (p := ⟨fs, 2, none⟩) hfl).trans c2; have d3' := (hbw1.cell (p := ⟨fs, 3, none⟩) hfl).trans c3; have e1' := (hbw1.frozen (p := ⟨fs, 1, none⟩) hfl).trans hf1; have e2' := (hbw1.frozen (p := ⟨fs, 2, none⟩) hfl).trans hf2; have e3' := (hbw1.frozen (p := ⟨fs, 3, none⟩) hfl).trans hf3)
                ((try simp only [Exit.inBlock, Exit.then]); first | (refine bodyPost_ret (results_none rfl _ _ _) rfl ?_) | (refine bodyPost_end (results_none rfl _ _ _) rfl ?_))
                exact crash_done H.out hbw1 (HF1.out.wide (fun b _ hj => by
                  rcases hj with (h1 | h1) | h1
                  · exact .inl h1
                  · exact .inr h1
                  · exact .inr (Nat.le_trans hbel.size (Nat.le_trans (by simp) h1)))) HR.out
              have hp1 : 0 < (S.l[k].p).length := by omega
              by_cases m1 : d < (S.l[k].p).length
              · have hdl : d ≤ (S.l[k].p).length := by omega
                have HTK : Hid (Vf.torn S.l[k] (d : Int) = d ∧ (S.l[k].p).take d = (Vf.cut S.l[k] (d : Int)).p) := Lib.hid (by
                  have : Vf.torn S.l[k] (d : Int) = d := by unfold Vf.torn; omega
                  exact ⟨this, by unfold Vf.cut; rw [this]⟩)
                have HTA : Hid (∀ o : Obj, Calls Try.prog 53 #[.slice A (Vf.rep S.was (S.l.take k)).length c, .agg #[.int .i64 2, .string ⟨(S.l[k].name).toArray⟩, .int .i64 (S.l[k].off : Int), .slice A2 d c2']] (wr.alloc o) (Vf.MadeF (fun b => G b ∨ w.heap.size ≤ b) (wr.alloc o) (Vf.does (Vf.rep S.was (S.l.take k)) (Vf.cut S.l[k] (d : Int))))) := Lib.hid fun o => HT.out (wr.alloc o) _ _ _ k hlt h2 (hfs.out.keep (by simp) (fun b hb _ => Below.heap_alloc wr o b hb)) ((HTK.out.2 ▸ HB.out.take d hdl).keep (by simp) (fun b hb _ => Below.heap_alloc wr o b hb))
                clear HT
                go_wp2_with (go_at_call 53; (with_reducible refine (HTA.out _).mono ?_); rintro e w1 ⟨v1, rfl, hfs1, hb1⟩; have HF1 := Lib.hid hfs1; obtain ⟨A1, cc1, xs1, rfl, _⟩ := hfs1; have hbw1 := (hbel.alloc hbel.size _).trans (hb1.mono (by have := hbel.size; simp; omega)); have d1' := (hbw1.cell (p := ⟨fs, 1, none⟩) hfl).trans c1; have d2' := (hbw1.cell (p := ⟨fs, 2, none⟩) hfl).trans c2; have d3' := (hbw1.cell (p := ⟨fs, 3, none⟩) hfl).trans c3; have e1' := (hbw1.frozen (p := ⟨fs, 1, none⟩) hfl).trans hf1; have e2' := (hbw1.frozen (p := ⟨fs, 2, none⟩) hfl).trans hf2; have e3' := (hbw1.frozen (p := ⟨fs, 3, none⟩) hfl).trans hf3)
                ((try simp only [Exit.inBlock, Exit.then]); first | (refine bodyPost_ret (results_none rfl _ _ _) rfl ?_) | (refine bodyPost_end (results_none rfl _ _ _) rfl ?_))
                exact crash_done H.out hbw1 (HF1.out.wide (fun b _ hj => by
                  rcases hj with (h1 | h1) | h1
                  · exact .inl h1
                  · exact .inr h1
                  · exact .inr (Nat.le_trans hbel.size (Nat.le_trans (by simp) h1)))) HR.out
              · rcases (show d = (S.l[k].p).length ∨ (S.l[k].p).length < d by omega) with rfl | m2
                · have hdl : (S.l[k].p).length ≤ (S.l[k].p).length := Nat.le_refl _
                  have HTK : Hid (Vf.torn S.l[k] ((S.l[k].p).length : Int) = (S.l[k].p).length ∧ (S.l[k].p).take (S.l[k].p).length = (Vf.cut S.l[k] ((S.l[k].p).length : Int)).p) := Lib.hid (by
                    have : Vf.torn S.l[k] ((S.l[k].p).length : Int) = (S.l[k].p).length := by unfold Vf.torn; omega
                    exact ⟨this, by unfold Vf.cut; rw [this]⟩)
                  have HTA : Hid (∀ o : Obj, Calls Try.prog 53 #[.slice A (Vf.rep S.was (S.l.take k)).length c, .agg #[.int .i64 2, .string ⟨(S.l[k].name).toArray⟩, .int .i64 (S.l[k].off : Int), .slice A2 (S.l[k].p).length c2']] (wr.alloc o) (Vf.MadeF (fun b => G b ∨ w.heap.size ≤ b) (wr.alloc o) (Vf.does (Vf.rep S.was (S.l.take k)) (Vf.cut S.l[k] ((S.l[k].p).length : Int))))) := Lib.hid fun o => HT.out (wr.alloc o) _ _ _ k hlt h2 (hfs.out.keep (by simp) (fun b hb _ => Below.heap_alloc wr o b hb)) ((HTK.out.2 ▸ HB.out.take (S.l[k].p).length hdl).keep (by simp) (fun b hb _ => Below.heap_alloc wr o b hb))
                  clear HT
                  go_wp2_with (go_at_call 53; (with_reducible refine (HTA.out _).mono ?_); rintro e w1 ⟨v1, rfl, hfs1, hb1⟩; have HF1 := Lib.hid hfs1; obtain ⟨A1, cc1, xs1, rfl, _⟩ := hfs1; have hbw1 := (hbel.alloc hbel.size _).trans (hb1.mono (by have := hbel.size; simp; omega)); have d1' := (hbw1.cell (p := ⟨fs, 1, none⟩) hfl).trans c1; have d2' := (hbw1.cell (p := ⟨fs, 2, none⟩) hfl).trans c2; have d3' := (hbw1.cell (p := ⟨fs, 3, none⟩) hfl).trans c3; have e1' := (hbw1.frozen (p := ⟨fs, 1, none⟩) hfl).trans hf1; have e2' := (hbw1.frozen (p := ⟨fs, 2, none⟩) hfl).trans hf2; have e3' := (hbw1.frozen (p := ⟨fs, 3, none⟩) hfl).trans hf3)
                  ((try simp only [Exit.inBlock, Exit.then]); first | (refine bodyPost_ret (results_none rfl _ _ _) rfl ?_) | (refine bodyPost_end (results_none rfl _ _ _) rfl ?_))
                  exact crash_done H.out hbw1 (HF1.out.wide (fun b _ hj => by
                    rcases hj with (h1 | h1) | h1
                    · exact .inl h1
                    · exact .inr h1
                    · exact .inr (Nat.le_trans hbel.size (Nat.le_trans (by simp) h1)))) HR.out
                · have hdl : (S.l[k].p).length ≤ (S.l[k].p).length := Nat.le_refl _
                  have HTK : Hid (Vf.torn S.l[k] (d : Int) = (S.l[k].p).length ∧ (S.l[k].p).take (S.l[k].p).length = (Vf.cut S.l[k] (d : Int)).p) := Lib.hid (by
                    have : Vf.torn S.l[k] (d : Int) = (S.l[k].p).length := by unfold Vf.torn; omega
                    exact ⟨this, by unfold Vf.cut; rw [this]⟩)
                  have HTA : Hid (∀ o : Obj, Calls Try.prog 53 #[.slice A (Vf.rep S.was (S.l.take k)).length c, .agg #[.int .i64 2, .string ⟨(S.l[k].name).toArray⟩, .int .i64 (S.l[k].off : Int), .slice A2 (S.l[k].p).length c2']] (wr.alloc o) (Vf.MadeF (fun b => G b ∨ w.heap.size ≤ b) (wr.alloc o) (Vf.does (Vf.rep S.was (S.l.take k)) (Vf.cut S.l[k] (d : Int))))) := Lib.hid fun o => HT.out (wr.alloc o) _ _ _ k hlt h2 (hfs.out.keep (by simp) (fun b hb _ => Below.heap_alloc wr o b hb)) ((HTK.out.2 ▸ HB.out.take (S.l[k].p).length hdl).keep (by simp) (fun b hb _ => Below.heap_alloc wr o b hb))
                  clear HT
                  go_wp2_with (go_at_call 53; (with_reducible refine (HTA.out _).mono ?_); rintro e w1 ⟨v1, rfl, hfs1, hb1⟩; have HF1 := Lib.hid hfs1; obtain ⟨A1, cc1, xs1, rfl, _⟩ := hfs1; have hbw1 := (hbel.alloc hbel.size _).trans (hb1.mono (by have := hbel.size; simp; omega)); have d1' := (hbw1.cell (p := ⟨fs, 1, none⟩) hfl).trans c1; have d2' := (hbw1.cell (p := ⟨fs, 2, none⟩) hfl).trans c2; have d3' := (hbw1.cell (p := ⟨fs, 3, none⟩) hfl).trans c3; have e1' := (hbw1.frozen (p := ⟨fs, 1, none⟩) hfl).trans hf1; have e2' := (hbw1.frozen (p := ⟨fs, 2, none⟩) hfl).trans hf2; have e3' := (hbw1.frozen (p := ⟨fs, 3, none⟩) hfl).trans hf3)
                  ((try simp only [Exit.inBlock, Exit.then]); first | (refine bodyPost_ret (results_none rfl _ _ _) rfl ?_) | (refine bodyPost_end (results_none rfl _ _ _) rfl ?_))
                  exact crash_done H.out hbw1 (HF1.out.wide (fun b _ hj => by
                    rcases hj with (h1 | h1) | h1
                    · exact .inl h1
                    · exact .inr h1
                    · exact .inr (Nat.le_trans hbel.size (Nat.le_trans (by simp) h1)))) HR.out
          · have HR := Lib.hid (Vf.crash_clean (m := m) hq hlt h2)
            have hk2 : (S.l[k].kind == 2) = false := by simpa using h2
            clear HD HT
            go_wp2_with fail
            all_goals
              ((try simp only [Exit.inBlock, Exit.then]); first | (refine bodyPost_ret (results_none rfl _ _ _) rfl ?_) | (refine bodyPost_end (results_none rfl _ _ _) rfl ?_))
              exact crash_done H.out hbel hfs.out HR.out
        · skip
          by_cases h2 : S.l[k].kind = 2
          · have HR := Lib.hid (Vf.crash_torn (m := m) hq hlt h2)
            have hk2 : (S.l[k].kind == 2) = true := by simpa using h2
            have hpc : (S.l[k].p).length ≤ c2' := by
              obtain ⟨_, _, e, h1, _, _⟩ := hbs
              injection e with _ _ e3
              omega
            have hpm : c2' ≤ maxLen := by
              obtain ⟨_, _, e, _, h1, _⟩ := hbs
              injection e with _ _ e3
              omega
            unfold maxLen at hpm
            clear HD hbs
            by_cases m0 : m ≤ 0
            · have hdl : 0 ≤ (S.l[k].p).length := Nat.zero_le _
              have HTK : Hid (Vf.torn S.l[k] m = 0 ∧ (S.l[k].p).take 0 = (Vf.cut S.l[k] m).p) := Lib.hid (by
                have : Vf.torn S.l[k] m = 0 := by unfold Vf.torn; omega
                exact ⟨this, by unfold Vf.cut; rw [this]⟩)
              have HTA : Hid (∀ o : Obj, Calls Try.prog 53 #[.slice A (Vf.rep S.was (S.l.take k)).length c, .agg #[.int .i64 2, .string ⟨(S.l[k].name).toArray⟩, .int .i64 (S.l[k].off : Int), .slice A2 0 c2']] (wr.alloc o) (Vf.MadeF (fun b => G b ∨ w.heap.size ≤ b) (wr.alloc o) (Vf.does (Vf.rep S.was (S.l.take k)) (Vf.cut S.l[k] m)))) := Lib.hid fun o => HT.out (wr.alloc o) _ _ _ k hlt h2 (hfs.out.keep (by simp) (fun b hb _ => Below.heap_alloc wr o b hb)) ((HTK.out.2 ▸ HB.out.take 0 hdl).keep (by simp) (fun b hb _ => Below.heap_alloc wr o b hb))
              clear HT
              go_wp2_with (go_at_call 53; (with_reducible refine (HTA.out _).mono ?_); rintro e w1 ⟨v1, rfl, hfs1, hb1⟩; have HF1 := Lib.hid hfs1; obtain ⟨A1, cc1, xs1, rfl, _⟩ := hfs1; have hbw1 := (hbel.alloc hbel.size _).trans (hb1.mono (by have := hbel.size; simp; omega)); have d1' := (hbw1.cell (p := ⟨fs, 1, none⟩) hfl).trans c1; have d2' := (hbw1.cell (p := ⟨fs, 2, none⟩) hfl).trans c2; have d3' := (hbw1.cell (p := ⟨fs, 3, none⟩) hfl).trans c3; have e1' := (hbw1.frozen (p := ⟨fs, 1, none⟩) hfl).trans hf1; have e2' := (hbw1.frozen (p := ⟨fs, 2, none⟩) hfl).trans hf2; have e3' := (hbw1.frozen (p := ⟨fs, 3, none⟩) hfl).trans hf3)
              ((try simp only [Exit.inBlock, Exit.then]); first | (refine bodyPost_ret (results_none rfl _ _ _) rfl ?_) | (refine bodyPost_end (results_none rfl _ _ _) rfl ?_))
              exact crash_done H.out hbw1 (HF1.out.wide (fun b _ hj => by
                rcases hj with (h1 | h1) | h1
                · exact .inl h1
                · exact .inr h1
                · exact .inr (Nat.le_trans hbel.size (Nat.le_trans (by simp) h1)))) HR.out
            · obtain ⟨d, rfl⟩ : ∃ d : Nat, m = (d : Int) := ⟨m.toNat, by omega⟩
              by_cases hp0 : (S.l[k].p).length = 0
              · have hdl : 0 ≤ (S.l[k].p).length := Nat.zero_le _
                have HTK : Hid (Vf.torn S.l[k] (d : Int) = 0 ∧ (S.l[k].p).take 0 = (Vf.cut S.l[k] (d : Int)).p) := Lib.hid (by
                  have : Vf.torn S.l[k] (d : Int) = 0 := by unfold Vf.torn; omega
                  exact ⟨this, by unfold Vf.cut; rw [this]⟩)
                have HTA : Hid (∀ o : Obj, Calls Try.prog 53 #[.slice A (Vf.rep S.was (S.l.take k)).length c, .agg #[.int .i64 2, .string ⟨(S.l[k].name).toArray⟩, .int .i64 (S.l[k].off : Int), .slice A2 0 c2']] (wr.alloc o) (Vf.MadeF (fun b => G b ∨ w.heap.size ≤ b) (wr.alloc o) (Vf.does (Vf.rep S.was (S.l.take k)) (Vf.cut S.l[k] (d : Int))))) := Lib.hid fun o => HT.out (wr.alloc o) _ _ _ k hlt h2 (hfs.out.keep (by simp) (fun b hb _ => Below.heap_alloc wr o b hb)) ((HTK.out.2 ▸ HB.out.take 0 hdl).keep (by simp) (fun b hb _ => Below.heap_alloc wr o b hb))
                clear HT
                go_wp2_with (go_at_call 53; (with_reducible refine (HTA.out _).mono ?_); rintro e w1 ⟨v1, rfl, hfs1, hb1⟩; have HF1 := Lib.hid hfs1; obtain ⟨A1, cc1, xs1, rfl, _⟩ := hfs1; have hbw1 := (hbel.alloc hbel.size _).trans (hb1.mono (by have := hbel.size; simp; omega)); have d1' := (hbw1.cell (p := ⟨fs, 1, none⟩) hfl).trans c1; have d2' := (hbw1.cell (p := ⟨fs, 2, none⟩) hfl).trans c2; have d3' := (hbw1.cell (p := ⟨fs, 3, none⟩) hfl).trans c3; have e1' := (hbw1.frozen (p := ⟨fs, 1, none⟩) hfl).trans hf1; have e2' := (hbw1.frozen (p := ⟨fs, 2, none⟩) hfl).trans hf2; have e3' := (hbw1.frozen (p := ⟨fs, 3, none⟩) hfl).trans hf3)
                ((try simp only [Exit.inBlock, Exit.then]); first | (refine bodyPost_ret (results_none rfl _ _ _) rfl ?_) | (refine bodyPost_end (results_none rfl _ _ _) rfl ?_))
                exact crash_done H.out hbw1 (HF1.out.wide (fun b _ hj => by
                  rcases hj with (h1 | h1) | h1
                  · exact .inl h1
                  · exact .inr h1
                  · exact .inr (Nat.le_trans hbel.size (Nat.le_trans (by simp) h1)))) HR.out
              have hp1 : 0 < (S.l[k].p).length := by omega
              by_cases m1 : d < (S.l[k].p).length
              · have hdl : d ≤ (S.l[k].p).length := by omega
                have HTK : Hid (Vf.torn S.l[k] (d : Int) = d ∧ (S.l[k].p).take d = (Vf.cut S.l[k] (d : Int)).p) := Lib.hid (by
                  have : Vf.torn S.l[k] (d : Int) = d := by unfold Vf.torn; omega
                  exact ⟨this, by unfold Vf.cut; rw [this]⟩)
                have HTA : Hid (∀ o : Obj, Calls Try.prog 53 #[.slice A (Vf.rep S.was (S.l.take k)).length c, .agg #[.int .i64 2, .string ⟨(S.l[k].name).toArray⟩, .int .i64 (S.l[k].off : Int), .slice A2 d c2']] (wr.alloc o) (Vf.MadeF (fun b => G b ∨ w.heap.size ≤ b) (wr.alloc o) (Vf.does (Vf.rep S.was (S.l.take k)) (Vf.cut S.l[k] (d : Int))))) := Lib.hid fun o => HT.out (wr.alloc o) _ _ _ k hlt h2 (hfs.out.keep (by simp) (fun b hb _ => Below.heap_alloc wr o b hb)) ((HTK.out.2 ▸ HB.out.take d hdl).keep (by simp) (fun b hb _ => Below.heap_alloc wr o b hb))
                clear HT
                go_wp2_with (go_at_call 53; (with_reducible refine (HTA.out _).mono ?_); rintro e w1 ⟨v1, rfl, hfs1, hb1⟩; have HF1 := Lib.hid hfs1; obtain ⟨A1, cc1, xs1, rfl, _⟩ := hfs1; have hbw1 := (hbel.alloc hbel.size _).trans (hb1.mono (by have := hbel.size; simp; omega)); have d1' := (hbw1.cell (p := ⟨fs, 1, none⟩) hfl).trans c1; have d2' := (hbw1.cell (p := ⟨fs, 2, none⟩) hfl).trans c2; have d3' := (hbw1.cell (p := ⟨fs, 3, none⟩) hfl).trans c3; have e1' := (hbw1.frozen (p := ⟨fs, 1, none⟩) hfl).trans hf1; have e2' := (hbw1.frozen (p := ⟨fs, 2, none⟩) hfl).trans hf2; have e3' := (hbw1.frozen (p := ⟨fs, 3, none⟩) hfl).trans hf3)
                ((try simp only [Exit.inBlock, Exit.then]); first | (refine bodyPost_ret (results_none rfl _ _ _) rfl ?_) | (refine bodyPost_end (results_none rfl _ _ _) rfl ?_))
                exact crash_done H.out hbw1 (HF1.out.wide (fun b _ hj => by
                  rcases hj with (h1 | h1) | h1
                  · exact .inl h1
                  · exact .inr h1
                  · exact .inr (Nat.le_trans hbel.size (Nat.le_trans (by simp) h1)))) HR.out
              · rcases (show d = (S.l[k].p).length ∨ (S.l[k].p).length < d by omega) with rfl | m2
                · have hdl : (S.l[k].p).length ≤ (S.l[k].p).length := Nat.le_refl _
                  have HTK : Hid (Vf.torn S.l[k] ((S.l[k].p).length : Int) = (S.l[k].p).length ∧ (S.l[k].p).take (S.l[k].p).length = (Vf.cut S.l[k] ((S.l[k].p).length : Int)).p) := Lib.hid (by
                    have : Vf.torn S.l[k] ((S.l[k].p).length : Int) = (S.l[k].p).length := by unfold Vf.torn; omega
                    exact ⟨this, by unfold Vf.cut; rw [this]⟩)
                  have HTA : Hid (∀ o : Obj, Calls Try.prog 53 #[.slice A (Vf.rep S.was (S.l.take k)).length c, .agg #[.int .i64 2, .string ⟨(S.l[k].name).toArray⟩, .int .i64 (S.l[k].off : Int), .slice A2 (S.l[k].p).length c2']] (wr.alloc o) (Vf.MadeF (fun b => G b ∨ w.heap.size ≤ b) (wr.alloc o) (Vf.does (Vf.rep S.was (S.l.take k)) (Vf.cut S.l[k] ((S.l[k].p).length : Int))))) := Lib.hid fun o => HT.out (wr.alloc o) _ _ _ k hlt h2 (hfs.out.keep (by simp) (fun b hb _ => Below.heap_alloc wr o b hb)) ((HTK.out.2 ▸ HB.out.take (S.l[k].p).length hdl).keep (by simp) (fun b hb _ => Below.heap_alloc wr o b hb))
                  clear HT
                  go_wp2_with (go_at_call 53; (with_reducible refine (HTA.out _).mono ?_); rintro e w1 ⟨v1, rfl, hfs1, hb1⟩; have HF1 := Lib.hid hfs1; obtain ⟨A1, cc1, xs1, rfl, _⟩ := hfs1; have hbw1 := (hbel.alloc hbel.size _).trans (hb1.mono (by have := hbel.size; simp; omega)); have d1' := (hbw1.cell (p := ⟨fs, 1, none⟩) hfl).trans c1; have d2' := (hbw1.cell (p := ⟨fs, 2, none⟩) hfl).trans c2; have d3' := (hbw1.cell (p := ⟨fs, 3, none⟩) hfl).trans c3; have e1' := (hbw1.frozen (p := ⟨fs, 1, none⟩) hfl).trans hf1; have e2' := (hbw1.frozen (p := ⟨fs, 2, none⟩) hfl).trans hf2; have e3' := (hbw1.frozen (p := ⟨fs, 3, none⟩) hfl).trans hf3)
                  ((try simp only [Exit.inBlock, Exit.then]); first | (refine bodyPost_ret (results_none rfl _ _ _) rfl ?_) | (refine bodyPost_end (results_none rfl _ _ _) rfl ?_))
                  exact crash_done H.out hbw1 (HF1.out.wide (fun b _ hj => by
                    rcases hj with (h1 | h1) | h1
                    · exact .inl h1
                    · exact .inr h1
                    · exact .inr (Nat.le_trans hbel.size (Nat.le_trans (by simp) h1)))) HR.out
                · have hdl : (S.l[k].p).length ≤ (S.l[k].p).length := Nat.le_refl _
                  have HTK : Hid (Vf.torn S.l[k] (d : Int) = (S.l[k].p).length ∧ (S.l[k].p).take (S.l[k].p).length = (Vf.cut S.l[k] (d : Int)).p) := Lib.hid (by
                    have : Vf.torn S.l[k] (d : Int) = (S.l[k].p).length := by unfold Vf.torn; omega
                    exact ⟨this, by unfold Vf.cut; rw [this]⟩)
                  have HTA : Hid (∀ o : Obj, Calls Try.prog 53 #[.slice A (Vf.rep S.was (S.l.take k)).length c, .agg #[.int .i64 2, .string ⟨(S.l[k].name).toArray⟩, .int .i64 (S.l[k].off : Int), .slice A2 (S.l[k].p).length c2']] (wr.alloc o) (Vf.MadeF (fun b => G b ∨ w.heap.size ≤ b) (wr.alloc o) (Vf.does (Vf.rep S.was (S.l.take k)) (Vf.cut S.l[k] (d : Int))))) := Lib.hid fun o => HT.out (wr.alloc o) _ _ _ k hlt h2 (hfs.out.keep (by simp) (fun b hb _ => Below.heap_alloc wr o b hb)) ((HTK.out.2 ▸ HB.out.take (S.l[k].p).length hdl).keep (by simp) (fun b hb _ => Below.heap_alloc wr o b hb))
                  clear HT
                  go_wp2_with (go_at_call 53; (with_reducible refine (HTA.out _).mono ?_); rintro e w1 ⟨v1, rfl, hfs1, hb1⟩; have HF1 := Lib.hid hfs1; obtain ⟨A1, cc1, xs1, rfl, _⟩ := hfs1; have hbw1 := (hbel.alloc hbel.size _).trans (hb1.mono (by have := hbel.size; simp; omega)); have d1' := (hbw1.cell (p := ⟨fs, 1, none⟩) hfl).trans c1; have d2' := (hbw1.cell (p := ⟨fs, 2, none⟩) hfl).trans c2; have d3' := (hbw1.cell (p := ⟨fs, 3, none⟩) hfl).trans c3; have e1' := (hbw1.frozen (p := ⟨fs, 1, none⟩) hfl).trans hf1; have e2' := (hbw1.frozen (p := ⟨fs, 2, none⟩) hfl).trans hf2; have e3' := (hbw1.frozen (p := ⟨fs, 3, none⟩) hfl).trans hf3)
                  ((try simp only [Exit.inBlock, Exit.then]); first | (refine bodyPost_ret (results_none rfl _ _ _) rfl ?_) | (refine bodyPost_end (results_none rfl _ _ _) rfl ?_))
                  exact crash_done H.out hbw1 (HF1.out.wide (fun b _ hj => by
                    rcases hj with (h1 | h1) | h1
                    · exact .inl h1
                    · exact .inr h1
                    · exact .inr (Nat.le_trans hbel.size (Nat.le_trans (by simp) h1)))) HR.out
          · have HR := Lib.hid (Vf.crash_clean (m := m) hq hlt h2)
            have hk2 : (S.l[k].kind == 2) = false := by simpa using h2
            clear HD HT
            go_wp2_with fail
            all_goals
              ((try simp only [Exit.inBlock, Exit.then]); first | (refine bodyPost_ret (results_none rfl _ _ _) rfl ?_) | (refine bodyPost_end (results_none rfl _ _ _) rfl ?_))
              exact crash_done H.out hbel hfs.out HR.out
    · obtain rfl : k = S.l.length := by omega
      have HR := Lib.hid (Vf.crash_all (n := n) (m := m) hkn)
      rw [List.take_length] at hfs
      clear HD HT
      obtain ⟨A5, c5, rfl⟩ : ∃ A c, lv = .slice A S.l.length c := by
        rcases H.out.own.2 with ⟨e, e0⟩ | ⟨g, cap, cur, e, _⟩
        · exact ⟨none, 0, by rw [e, e0]⟩
        · exact ⟨_, cap, e⟩
      try rw [List.take_length]
      go_wp2_with fail
      all_goals
        ((try simp only [Exit.inBlock, Exit.then]); first | (refine bodyPost_ret (results_none rfl _ _ _) rfl ?_) | (refine bodyPost_end (results_none rfl _ _ _) rfl ?_))
        exact crash_done H.out hbel hfs.out HR.out

end Go.Proofs.Ytiacpopgnmledaa
