/-
  VrCrash: CONTRACTS: the document's own files as an object: a crash.
  VrSound: THE PLAIN MATHEMATICS of files: what holds of the document's own files whatever is played.
  VrRead: CONTRACTS: the document's own files as an object: Read.
  FxPure: THE PLAIN MATHEMATICS of fixed's values: what each function comes to, over whole numbers of any size. No program is named here.
  FxBase: THE FIRST CONTRACTS: what fixed's small functions come to, and the document's own.
  WhPure: PLAIN MATHEMATICS: which headers may be, their sizes and places. No program is named here.
  WhBase: CONTRACTS: whead's small functions: numbers within range, spans, two archives side by side, where archives end.
  WhFol: CONTRACTS: whead's archives: which may follow which, where they end, whether they may be.
-/
import Derived.Test.YtbakngbmfgnmcaaDoorJ1
import Derived.WalkKit
import Derived.Test.YtbakngbmfgnmcaaDoorRows
import Derived.WalkSpells
import Derived.WalkLawsBesides
import Derived.Deep.QuietTactic
import Derived.BigQuiet
import Derived.Lib.QuietBelow
import Derived.Lib.Hide
import Derived.IntWalk

namespace Go.Proofs.YtbakngbmfgnmcaaDoor
open Go.RowKit
open Me

namespace Vf
/-- Acts done one after another. -/
def rep (was : List Fl) (l : List Ac) : List Fl := l.foldl does was
theorem rep_take (was : List Fl) (l : List Ac) (k : Nat) (h : k < l.length) : rep was (l.take (k + 1)) = does (rep was (l.take k)) l[k] := by
  unfold rep
  rw [List.take_succ_eq_append_getElem h, List.foldl_append]
  rfl
/-- How much of a torn write is done. -/
def torn (a : Ac) (m : Int) : Nat := (max 0 (min m (a.p.length : Int))).toNat
def cut (a : Ac) (m : Int) : Ac := { a with p := a.p.take (torn a m) }
def crash (S : Sv) (n m : Int) : List Fl := match S.l[n.toNat]? with
  | some a => if a.kind = 2 then does (rep S.was (S.l.take n.toNat)) (cut a m) else rep S.was (S.l.take n.toNat)
  | none => rep S.was S.l
theorem crash_all {S : Sv} {n m : Int} (h : S.l.length ≤ n.toNat) : crash S n m = rep S.was S.l := by
  unfold crash
  rw [List.getElem?_eq_none h]
theorem crash_clean {S : Sv} {n m : Int} {k : Nat} (hk : n.toNat = k) (h : k < S.l.length) (hn : ¬ S.l[k].kind = 2) : crash S n m = rep S.was (S.l.take k) := by
  subst hk
  unfold crash
  rw [List.getElem?_eq_getElem h]
  simp [hn]
theorem crash_torn {S : Sv} {n m : Int} {k : Nat} (hk : n.toNat = k) (h : k < S.l.length) (hn : S.l[k].kind = 2) : crash S n m = does (rep S.was (S.l.take k)) (cut S.l[k] m) := by
  subst hk
  unfold crash
  rw [List.getElem?_eq_getElem h]
  simp [hn]
/-- All that a replay meets is fit to be done. -/
def Sound (S : Sv) : Prop := ∀ k, k ≤ S.l.length → (rep S.was (S.l.take k)).length ≤ 1048576 ∧ (∀ f ∈ rep S.was (S.l.take k), f.b.length ≤ 4294967296) ∧ ∀ h : k < S.l.length, fits (rep S.was (S.l.take k)) S.l[k] ∧ S.l[k].off ≤ 4294967296
theorem fits_cut {l : List Fl} {a : Ac} (m : Int) (h : fits l a) : fits l (cut a m) := by
  intro hk k hkl e
  have := h hk k hkl e
  have h2 : (cut a m).p.length ≤ a.p.length := by unfold cut; simp; omega
  have h3 : (cut a m).off = a.off := rfl
  omega
theorem _root_.Go.Proofs.YtbakngbmfgnmcaaDoor.Me.Bs.take {w : World} {G : Nat → Prop} {A : Option Addr} {n c : Nat} {l : List UInt8} (h : Bs w G (.slice A n c) l) (d : Nat) (hd : d ≤ l.length) : Bs w G (.slice A d c) (l.take d) := by
  obtain ⟨A2, c2, e, h1, h2, h3⟩ := h
  injection e with e1 e2 e3
  subst e1 e3
  refine ⟨A, c, by rw [List.length_take, Nat.min_eq_left hd], by rw [List.length_take]; omega, h2, fun hn => ?_⟩
  obtain ⟨ad, ea, hl, hg, hc⟩ := h3 (by rintro e; apply hn; unfold by8 at e ⊢; rw [List.map_take, e]; simp)
  refine ⟨ad, ea, hl, hg, fun j u hu => hc j u ?_⟩
  rw [← by8_take, List.getElem?_take] at hu
  split at hu
  · exact hu
  · cases hu
/-- An act in its place. -/
theorem At.nth {w : World} {G : Nat → Prop} {fs : Nat} {lr : Option Nat} {S : Sv} {nv wv lv : Value} {ys : List Value} (h : At w G fs lr S nv wv lv ys) (k : Nat) (hk : k < S.l.length) :
    ∃ g cap A2 c2, lv = .slice (some ⟨g, 0, none⟩) S.l.length cap ∧ S.l.length ≤ cap ∧ cap ≤ maxLen ∧ g < w.heap.size ∧ w.cell? ⟨g, k * 4, none⟩ = some (.int .i64 S.l[k].kind) ∧ w.cell? ⟨g, k * 4 + 1, none⟩ = some (.string ⟨(S.l[k].name).toArray⟩) ∧ w.cell? ⟨g, k * 4 + 2, none⟩ = some (.int .i64 (S.l[k].off : Int)) ∧
      w.cell? ⟨g, k * 4 + 3, none⟩ = some (.slice A2 (S.l[k].p).length c2) ∧ Bs w G (.slice A2 (S.l[k].p).length c2) S.l[k].p := by
  have hown := h.own
  rcases h.own.2 with ⟨_, h0⟩ | ⟨g, cap, cur, rfl, hb, hg, hnc, hcm, hcs, ht⟩
  · omega
  · obtain ⟨cs, hcs4, hx⟩ := h.acts.get AcC.four k hk
    obtain ⟨pv, rfl, hbs⟩ := hcs4
    have hb2 := hbs
    obtain ⟨A2, c2, rfl, _, _, _⟩ := hbs
    have hlen : ys.length = S.l.length * 4 := hown.1
    obtain ⟨ad, hA, hlt, _, hcell⟩ := (Rd.own hown).at_ (k * 4) (by omega)
    obtain rfl := Option.some.inj hA
    have hc : ∀ j u, ([.int .i64 S.l[k].kind, .string ⟨(S.l[k].name).toArray⟩, .int .i64 (S.l[k].off : Int), .slice A2 (S.l[k].p).length c2] : List Value)[j]? = some u → j < 4 → w.cell? ⟨g, k * 4 + j, none⟩ = some u := fun j u hu hj => by
      have := hcell (k * 4 + j) u ((hx j hj).trans hu)
      rwa [Addr.add_lit, Nat.zero_add] at this
    exact ⟨g, cap, A2, c2, rfl, hnc, hcm, hlt, hc 0 _ rfl (by omega), hc 1 _ rfl (by omega), hc 2 _ rfl (by omega), hc 3 _ rfl (by omega), hb2⟩
end Vf

theorem crash_end {w W : World} {G : Nat → Prop} {fs : Nat} {lr : Option Nat} {S : Vf.Sv} {nv wv lv v : Value} {ys : List Value} {r : List Vf.Fl} (h : Vf.At w G fs lr S nv wv lv ys) (hb : Below w.heap.size w W) (hr : Vf.Fs W (fun b => G b ∨ w.heap.size ≤ b) v r) :
    ∃ G', Vf.At (((W.setCell ⟨fs, 1, none⟩ v).setCell ⟨fs, 2, none⟩ v).setCell ⟨fs, 3, none⟩ (.slice none 0 0)) G' fs none ⟨S.room, r, r, []⟩ v v (.slice none 0 0) [] ∧ Kp (fun b => b = fs) w (((W.setCell ⟨fs, 1, none⟩ v).setCell ⟨fs, 2, none⟩ v).setCell ⟨fs, 3, none⟩ (.slice none 0 0)) ∧ ∀ b, G' b → G b ∨ w.heap.size ≤ b := by
  have hfl := h.fsLt
  have hw := hb.size
  have hs : (((W.setCell ⟨fs, 1, none⟩ v).setCell ⟨fs, 2, none⟩ v).setCell ⟨fs, 3, none⟩ (.slice none 0 0)).heap.size = W.heap.size := by rw [put_size, put_size, put_size]
  have hk : ∀ b, b < W.heap.size → (G b ∨ w.heap.size ≤ b) ∧ b < W.heap.size → (((W.setCell ⟨fs, 1, none⟩ v).setCell ⟨fs, 2, none⟩ v).setCell ⟨fs, 3, none⟩ (.slice none 0 0)).heap[b]? = W.heap[b]? := fun b _ hg => by
    have hne : b ≠ fs := by
      rcases hg.1 with h1 | h1
      · exact fun e => h.gfs (e ▸ h1)
      · omega
    rw [Below.heap_setCell _ ⟨fs, 3, none⟩ _ b hne, Below.heap_setCell _ ⟨fs, 2, none⟩ _ b hne, Below.heap_setCell _ ⟨fs, 1, none⟩ _ b hne]
  have hr2 := (hr.wide (G' := fun b => (G b ∨ w.heap.size ≤ b) ∧ b < W.heap.size) (fun b hb' hg => ⟨hg, hb'⟩)).keep (by omega) hk
  refine ⟨fun b => (G b ∨ w.heap.size ≤ b) ∧ b < W.heap.size, ⟨?_, hr2, hr2, World.ownsRow_nil _ _ _ _, rfl, rfl, ?_, (fun g h => nomatch h), fun b hb' => by rw [hs]; exact hb'.2⟩, (((Kp.of_below (O := fun b => b = fs) hb).setCell ⟨fs, 1, none⟩ (.inr rfl) _).setCell ⟨fs, 2, none⟩ (.inr rfl) _).setCell ⟨fs, 3, none⟩ (.inr rfl) _, fun b hb' => hb'.1⟩
  · rw [put_heap (put_heap (put_heap ((hb.block fs hfl).trans h.heap) _) _)]
    rfl
  · rintro ⟨h1 | h1, _⟩
    · exact h.gfs h1
    · omega

/-- What a crash leaves. -/
def Vf.Crashed (w : World) (G : Nat → Prop) (fs : Nat) (S : Vf.Sv) (r : List Vf.Fl) (e : Ending) (w' : World) : Prop :=
  e = .returned (.tuple #[]) ∧ ∃ G' v, Vf.At w' G' fs none ⟨S.room, r, r, []⟩ v v (.slice none 0 0) [] ∧ Kp (fun b => b = fs) w w' ∧ ∀ b, G' b → G b ∨ w.heap.size ≤ b
theorem crash_done {w W : World} {G : Nat → Prop} {fs : Nat} {lr : Option Nat} {S : Vf.Sv} {nv wv lv v : Value} {ys : List Value} {r r' : List Vf.Fl} (h : Vf.At w G fs lr S nv wv lv ys) (hb : Below w.heap.size w W) (hr : Vf.Fs W (fun b => G b ∨ w.heap.size ≤ b) v r) (e : r' = r) :
    Vf.Crashed w G fs S r' (.returned (.tuple #[])) (((W.setCell ⟨fs, 1, none⟩ v).setCell ⟨fs, 2, none⟩ v).setCell ⟨fs, 3, none⟩ (.slice none 0 0)) := by
  subst e
  obtain ⟨G', p1, p2, p3⟩ := crash_end h hb hr
  exact ⟨rfl, G', v, p1, p2, p3⟩

end Go.Proofs.YtbakngbmfgnmcaaDoor

namespace Go.Proofs.YtbakngbmfgnmcaaDoor
namespace Vf

theorem used_append (l m : List Fl) : used (l ++ m) = used l + used m := by unfold used; rw [List.map_append, List.sum_append]
theorem used_cons (f : Fl) (l : List Fl) : used (f :: l) = f.b.length + used l := by unfold used; rw [List.map_cons, List.sum_cons]
theorem used_one (a : Ac) (i : Int) (k : Nat) (x : Fl) (h : (k : Int) = i → a.kind = 2 → a.off + a.p.length ≤ x.b.length) : used (one a i k x) ≤ x.b.length := by
  unfold one
  split
  · rename_i hc
    rw [used_cons]
    show (upd x.b a.off a.p).length + used [] ≤ _
    rw [upd_len (h hc.1 hc.2)]
    simp [used]
  · split
    · simp [used]
    · simp [used]
theorem used_goes (a : Ac) (i : Int) : ∀ (l : List Fl) (k : Nat), (∀ (j : Nat) (hj : j < l.length), ((k + j : Nat) : Int) = i → a.kind = 2 → a.off + a.p.length ≤ l[j].b.length) → used (goes a i k l) ≤ used l
  | [], _, _ => by simp [goes]
  | x :: r, k, h => by
    rw [goes, used_append, used_cons]
    have h1 := used_one a i k x (fun e e2 => by have := h 0 (by simp) (by simpa using e) e2; simpa using this)
    have h2 := used_goes a i r (k + 1) (fun j hj e e2 => by
      have := h (j + 1) (by simpa using hj) (by rw [← e]; congr 1; omega) e2
      simpa using this)
    omega
theorem used_does (l : List Fl) (a : Ac) (h : fits l a) : used (does l a) ≤ used l + (if a.kind = 1 then a.p.length else 0) := by
  unfold does
  rw [used_append]
  have h1 := used_goes a (ix l a.name) l 0 (fun j hj e e2 => h e2 j hj (by simpa using e))
  split
  · rw [used_cons]
    simp [used] at h1 ⊢
    omega
  · simp [used] at h1 ⊢
    omega
/-- What holds of the document's own files when c acts were played. -/
structure Inv (c : Nat) (S : Sv) : Prop where
  room0 : 0 ≤ S.room
  room1 : S.room ≤ 1073741824
  now : S.now = rep S.was S.l
  len : S.l.length ≤ c
  all : ∀ k, k ≤ S.l.length → (rep S.was (S.l.take k)).length ≤ c ∧ (used (rep S.was (S.l.take k)) : Int) ≤ S.room ∧ ∀ h : k < S.l.length, fits (rep S.was (S.l.take k)) S.l[k] ∧ S.l[k].off ≤ 4294967296
theorem Inv.last {c : Nat} {S : Sv} (h : Inv c S) : S.now.length ≤ c ∧ (used S.now : Int) ≤ S.room := by
  have := h.all S.l.length (Nat.le_refl _)
  rw [List.take_length, ← h.now] at this
  exact ⟨this.1, this.2.1⟩
theorem Inv.new {room : Int} (h0 : 0 ≤ room) (h1 : room ≤ 1073741824) : Inv 0 ⟨room, [], [], []⟩ := by
  refine ⟨h0, h1, rfl, Nat.le_refl _, fun k hk => ?_⟩
  have hk0 : k = 0 := Nat.le_zero.1 hk
  subst hk0
  exact ⟨Nat.le_refl _, by simpa [rep, used] using h0, fun h => absurd h (Nat.lt_irrefl _)⟩
theorem Inv.mono {c d : Nat} {S : Sv} (h : Inv c S) (hd : c ≤ d) : Inv d S := ⟨h.room0, h.room1, h.now, Nat.le_trans h.len hd, fun k hk => ⟨Nat.le_trans (h.all k hk).1 hd, (h.all k hk).2⟩⟩
theorem Inv.plain {c : Nat} {room : Int} {r : List Fl} (h0 : 0 ≤ room) (h1 : room ≤ 1073741824) (hl : r.length ≤ c) (hu : (used r : Int) ≤ room) : Inv c ⟨room, r, r, []⟩ := by
  refine ⟨h0, h1, rfl, Nat.zero_le _, fun k hk => ?_⟩
  have hk0 : k = 0 := Nat.le_zero.1 hk
  subst hk0
  exact ⟨hl, hu, fun h => absurd h (Nat.lt_irrefl _)⟩
theorem Inv.sync {c : Nat} {S : Sv} (h : Inv c S) : Inv c { S with was := S.now, l := [] } := Inv.plain h.room0 h.room1 h.last.1 h.last.2
theorem rep_append (was : List Fl) (l : List Ac) (a : Ac) : rep was (l ++ [a]) = does (rep was l) a := by unfold rep; rw [List.foldl_append]; rfl
theorem Inv.act {c : Nat} {S : Sv} {a : Ac} (h : Inv c S) (hf : fits S.now a) (ho : a.off ≤ 4294967296) (hu : (used (does S.now a) : Int) ≤ S.room) : Inv (c + 1) (S.act a) := by
  have hlen : (S.l ++ [a]).length = S.l.length + 1 := by simp
  refine ⟨h.room0, h.room1, ?_, ?_, fun k hk => ?_⟩
  · show does S.now a = rep S.was (S.l ++ [a])
    rw [rep_append, ← h.now]
  · show (S.l ++ [a]).length ≤ c + 1
    have := h.len
    omega
  · have hk : k ≤ (S.l ++ [a]).length := hk
    show (rep S.was ((S.l ++ [a]).take k)).length ≤ c + 1 ∧ (used (rep S.was ((S.l ++ [a]).take k)) : Int) ≤ S.room ∧ ∀ h : k < (S.l ++ [a]).length, fits (rep S.was ((S.l ++ [a]).take k)) (S.l ++ [a])[k] ∧ (S.l ++ [a])[k].off ≤ 4294967296
    rcases Nat.lt_or_ge k S.l.length with hlt | hge
    · obtain ⟨h1, h2, h3⟩ := h.all k (by omega)
      rw [List.take_append_of_le_length (by omega)]
      refine ⟨by omega, h2, fun hk2 => ?_⟩
      rw [List.getElem_append_left hlt]
      exact h3 hlt
    · rcases Nat.eq_or_lt_of_le hge with e | hgt
      · subst e
        rw [List.take_append_of_le_length (Nat.le_refl _), List.take_length, ← h.now]
        refine ⟨by have := h.last.1; omega, h.last.2, fun hk2 => ?_⟩
        rw [List.getElem_append_right (Nat.le_refl _)]
        simpa using ⟨hf, ho⟩
      · have e : k = (S.l ++ [a]).length := by omega
        subst e
        rw [List.take_length, rep_append, ← h.now]
        refine ⟨?_, hu, fun hk2 => absurd hk2 (Nat.lt_irrefl _)⟩
        have h1 := does_len S.now a
        have h2 := h.last.1
        omega
theorem Inv.sound {c : Nat} {S : Sv} (h : Inv c S) (hc : c ≤ 1048576) : Sound S := fun k hk => by
  obtain ⟨h1, h2, h3⟩ := h.all k hk
  refine ⟨by omega, fun f hf => ?_, h3⟩
  have := used_mem hf
  have := h.room1
  omega
theorem Inv.create {c : Nat} {S : Sv} (h : Inv c S) (n b : List UInt8) : Inv (c + 1) (create S n b).1 := by
  unfold Vf.create
  split
  · exact h.mono (Nat.le_succ _)
  · split
    · exact h.mono (Nat.le_succ _)
    · split
      · exact h.mono (Nat.le_succ _)
      · rename_i hr
        have hf : fits S.now ⟨1, n, 0, b⟩ := fun e => by cases e
        refine h.act hf (Nat.zero_le _) ?_
        have h1 := used_does S.now ⟨1, n, 0, b⟩ hf
        simp at h1
        omega
theorem Inv.remove {c : Nat} {S : Sv} (h : Inv c S) (n : List UInt8) : Inv (c + 1) (remove S n).1 := by
  unfold Vf.remove
  split
  · exact h.mono (Nat.le_succ _)
  · split
    · exact h.mono (Nat.le_succ _)
    · have hf : fits S.now ⟨3, n, 0, []⟩ := fun e => by cases e
      refine h.act hf (Nat.zero_le _) ?_
      have h1 := used_does S.now ⟨3, n, 0, []⟩ hf
      have h2 := h.last.2
      simp at h1
      omega
theorem Inv.write {c : Nat} {S : Sv} (h : Inv c S) (n : List UInt8) (t : Int) (b : List UInt8) : Inv (c + 1) (write S n t b).1 := by
  unfold Vf.write
  split
  · exact h.mono (Nat.le_succ _)
  · split
    · exact h.mono (Nat.le_succ _)
    · split
      · exact h.mono (Nat.le_succ _)
      · rename_i hx hr
        obtain ⟨k, hk, hkl⟩ := ix_at hx
        have hl : lenAt S.now n = (S.now[k].b).length := by unfold lenAt; rw [hk]; simp [hkl]
        have hm := used_mem (List.getElem_mem hkl)
        have h2 := h.last.2
        have h3 := h.room1
        have hf : fits S.now ⟨2, n, t.toNat, b⟩ := fun _ j hj e => by
          have e2 : (j : Int) = (k : Int) := e.trans hk
          obtain rfl : j = k := by omega
          show t.toNat + b.length ≤ _
          omega
        refine h.act hf (show t.toNat ≤ 4294967296 by omega) ?_
        have h1 := used_does S.now ⟨2, n, t.toNat, b⟩ hf
        simp at h1
        omega
theorem Inv.crash {c : Nat} {S : Sv} (h : Inv c S) (n m : Int) : Inv (c + 1) ⟨S.room, crash S n m, crash S n m, []⟩ := by
  rcases Nat.lt_or_ge n.toNat S.l.length with hlt | hge
  · obtain ⟨h1, h2, h3⟩ := h.all n.toNat (by omega)
    by_cases h4 : S.l[n.toNat].kind = 2
    · rw [crash_torn rfl hlt h4]
      refine Inv.plain h.room0 h.room1 ?_ ?_
      · have := does_len (rep S.was (S.l.take n.toNat)) (cut S.l[n.toNat] m)
        omega
      · have := used_does _ _ (fits_cut m (h3 hlt).1)
        have e : (cut S.l[n.toNat] m).kind = 2 := h4
        rw [e] at this
        simp at this
        omega
    · rw [crash_clean rfl hlt h4]
      exact (Inv.plain h.room0 h.room1 h1 h2).mono (Nat.le_succ _)
  · rw [crash_all hge, ← h.now]
    exact (Inv.plain h.room0 h.room1 h.last.1 h.last.2).mono (Nat.le_succ _)

end Vf
end Go.Proofs.YtbakngbmfgnmcaaDoor

namespace Go.Proofs.YtbakngbmfgnmcaaDoor
open Go.RowKit
open Me

namespace Vf
def bytesAt (l : List Fl) (n : List UInt8) : List UInt8 := (l.getD (ix l n).toNat ⟨[], []⟩).b
def read (l : List Fl) (n : List UInt8) (t m : Int) : List UInt8 × Int :=
  if is n = false then ([], 1) else if ix l n < 0 then ([], 5) else if t < 0 ∨ m < 0 ∨ ((bytesAt l n).length : Int) < t ∨ ((bytesAt l n).length : Int) - t < m then ([], 1) else (((bytesAt l n).drop t.toNat).take m.toNat, 0)
theorem read_one {l : List Fl} {n : List UInt8} {t m : Int} {k : Nat} (hi : is n = true) (hk : ix l n = (k : Int)) (hkl : k < l.length) (h : t < 0 ∨ m < 0 ∨ (((l[k].b).length : Nat) : Int) < t ∨ (((l[k].b).length : Nat) : Int) - t < m) : read l n t m = ([], 1) := by
  have hl : bytesAt l n = l[k].b := by unfold bytesAt; rw [hk]; simp [hkl]
  unfold read
  rw [if_neg (by simp [hi]), if_neg (by omega), if_pos (by rw [hl]; exact h)]
theorem read_done {l : List Fl} {n : List UInt8} {t m : Nat} {k : Nat} (hi : is n = true) (hk : ix l n = (k : Int)) (hkl : k < l.length) (h : t + m ≤ (l[k].b).length) : read l n (t : Int) (m : Int) = (((l[k].b).drop t).take m, 0) := by
  have hl : bytesAt l n = l[k].b := by unfold bytesAt; rw [hk]; simp [hkl]
  unfold read
  rw [if_neg (by simp [hi]), if_neg (by omega), if_neg (by rw [hl]; omega), hl]
  simp
/-- What Read hands back: bytes in blocks that are new, and a number. -/
def Handed (w : World) (R : List UInt8 × Int) (e : Ending) (w' : World) : Prop := ∃ v, e = .returned (.tuple #[v, .int .i64 R.2]) ∧ Bs w' (fun i => w.heap.size ≤ i) v R.1 ∧ Below w.heap.size w w'
theorem Handed.no {w : World} {R : List UInt8 × Int} {i : Int} (h : R = ([], i)) : Handed w R (.returned (.tuple #[.slice none 0 0, .int .i64 i])) w := by
  subst h
  exact ⟨_, rfl, ⟨none, 0, rfl, Nat.le_refl _, Nat.zero_le _, Rd.none_ _ _ _⟩, Below.refl _ _⟩
end Vf

theorem rd_cut {w : World} {G : Nat → Prop} {ad : Addr} {bb : List UInt8} {t m cc : Nat} (h : Rd w G (some ad) (by8 bb)) (hc : bb.length ≤ cc) (ht : t + m ≤ bb.length) : Rd w G (if cc = t then some ad else some (ad.add t)) (by8 ((bb.drop t).take m)) := by
  by_cases hm : m = 0
  · subst hm
    rw [List.take_zero]
    exact Rd.none_ _ _ _
  · rw [if_neg (by omega), ← by8_take, ← by8_drop]
    exact h.sub t m
theorem read_end {w w1 : World} {v1 : Value} {l : List UInt8} {m : Nat} {e : TypeId} (hl : l.length = m) (hown : w1.ownsRow w.heap.size e 1 v1 (0 + m) ([] ++ by8 l)) (hg : (w.alloc (.cells #[] e)).grownBy w1 (Value.slice (some ⟨w.heap.size, 0, none⟩) 0 0).ownBlock) :
    Vf.Handed w (l, 0) (.returned (.tuple #[v1, .int .i64 0])) w1 := by
  rw [Nat.zero_add, List.nil_append, ← hl] at hown
  exact ⟨v1, rfl, Bs.own hown, ((Below.refl _ _).alloc (Nat.le_refl _) _).grown hg (by simp) (fun g hg => by simp [Value.ownBlock] at hg; omega)⟩

end Go.Proofs.YtbakngbmfgnmcaaDoor

namespace Go.Proofs.YtbakngbmfgnmcaaDoor
namespace Fx

/-- A value: whether it is known, and its millionths. -/
structure Vl where
  ok : Bool
  n : Int

def inR (n : Int) : Bool := decide (-4611686018427387904 ≤ n ∧ n ≤ 4611686018427387904)
def none : Vl := ⟨false, 0⟩
/-- Of: the value of n millionths, or none. -/
def of (n : Int) : Vl := if inR n then ⟨true, n⟩ else none
def num (v : Vl) : Bool := v.ok && inR v.n
def isV (v : Vl) : Bool := if v.ok then inR v.n else decide (v.n = 0)
def plus (a b : Vl) : Vl := if num a && num b then of (a.n + b.n) else none
def sub (a b : Vl) : Vl := if num a && num b then of (a.n - b.n) else none
def abs (a : Vl) : Vl := if num a then of (if 0 ≤ a.n then a.n else -a.n) else none
def less (a b : Vl) : Bool := (num a && num b) && decide (a.n < b.n)

theorem inR_yes {n : Int} (h1 : -4611686018427387904 ≤ n) (h2 : n ≤ 4611686018427387904) : inR n = true := by unfold inR; simp; omega
theorem inR_low {n : Int} (h : n < -4611686018427387904) : inR n = false := by unfold inR; simp; omega
theorem inR_high {n : Int} (h : 4611686018427387904 < n) : inR n = false := by unfold inR; simp; omega
theorem inR_iff {n : Int} : inR n = true ↔ -4611686018427387904 ≤ n ∧ n ≤ 4611686018427387904 := by unfold inR; simp
theorem inR_not {n : Int} (h : inR n = false) : n < -4611686018427387904 ∨ 4611686018427387904 < n := by
  by_cases h1 : n < -4611686018427387904
  · exact .inl h1
  · by_cases h2 : 4611686018427387904 < n
    · exact .inr h2
    · rw [inR_yes (by omega) (by omega)] at h; cases h
theorem of_yes {n : Int} (h : inR n = true) : of n = ⟨true, n⟩ := by unfold of; rw [if_pos h]
theorem of_no {n : Int} (h : inR n = false) : of n = none := by unfold of; rw [if_neg (by simp [h])]
theorem num_yes {n : Int} (h : inR n = true) : num ⟨true, n⟩ = true := by simp [num, h]
theorem num_no {n : Int} (h : inR n = false) : num ⟨true, n⟩ = false := by simp [num, h]
theorem num_off {n : Int} : num ⟨false, n⟩ = false := rfl
theorem num_iff {b : Bool} {n : Int} : num ⟨b, n⟩ = true ↔ b = true ∧ -4611686018427387904 ≤ n ∧ n ≤ 4611686018427387904 := by
  unfold num; simp [inR_iff]
theorem isV_on {n : Int} : isV ⟨true, n⟩ = inR n := rfl
theorem isV_off {n : Int} : isV ⟨false, n⟩ = decide (n = 0) := rfl
theorem plus_yes {a b : Vl} (h1 : num a = true) (h2 : num b = true) : plus a b = of (a.n + b.n) := by unfold plus; simp [h1, h2]
theorem plus_no1 {a b : Vl} (h1 : num a = false) : plus a b = none := by unfold plus; simp [h1]
theorem plus_no2 {a b : Vl} (h2 : num b = false) : plus a b = none := by unfold plus; simp [h2]
theorem sub_yes {a b : Vl} (h1 : num a = true) (h2 : num b = true) : sub a b = of (a.n - b.n) := by unfold sub; simp [h1, h2]
theorem sub_no1 {a b : Vl} (h1 : num a = false) : sub a b = none := by unfold sub; simp [h1]
theorem sub_no2 {a b : Vl} (h2 : num b = false) : sub a b = none := by unfold sub; simp [h2]
theorem abs_pos {a : Vl} (h : num a = true) (h0 : 0 ≤ a.n) : abs a = of a.n := by unfold abs; simp [h, h0]
theorem abs_neg {a : Vl} (h : num a = true) (h0 : a.n < 0) : abs a = of (-a.n) := by unfold abs; rw [if_pos h, if_neg (by omega)]
theorem abs_no {a : Vl} (h : num a = false) : abs a = none := by unfold abs; simp [h]
theorem of_wrap {n : Int} (h1 : -9223372036854775808 ≤ n) (h2 : n ≤ 9223372036854775808) : of (Go.RowKit.wrap64 n) = of n := by
  unfold Go.RowKit.wrap64
  by_cases h : n = 9223372036854775808
  · subst h; rw [of_no (n := 9223372036854775808) (inR_high (by omega))]; exact of_no (inR_low (by omega))
  · congr 1; omega
/-- A number without its sign. -/
def mag (n : Int) : Nat := n.natAbs
end Fx
end Go.Proofs.YtbakngbmfgnmcaaDoor

namespace Go.Proofs.YtbakngbmfgnmcaaDoor
open Go.RowKit
open Fx (Vl)

theorem bcell {W w1 : World} (hb : Below W.heap.size W w1) : (∀ b o, b < W.heap.size → w1.cell? ⟨b, o, none⟩ = W.cell? ⟨b, o, none⟩) ∧ (∀ b o, b < W.heap.size → w1.frozen? ⟨b, o, none⟩ = W.frozen? ⟨b, o, none⟩) :=
  ⟨fun b o h => hb.cell (p := ⟨b, o, none⟩) h, fun b o h => hb.frozen (p := ⟨b, o, none⟩) h⟩

/-- Old cells, and old marks, in a world of the class. -/
theorem kgrown (W : World) : (∀ d os b o, b < W.heap.size → (Go.Sort.grow (redrawn W d) os).cell? ⟨b, o, none⟩ = W.cell? ⟨b, o, none⟩) ∧ (∀ d os b o, b < W.heap.size → (Go.Sort.grow (redrawn W d) os).frozen? ⟨b, o, none⟩ = W.frozen? ⟨b, o, none⟩) :=
  ⟨fun d os b o h => (below_regrown W d os).cell (p := ⟨b, o, none⟩) h, fun d os b o h => (below_regrown W d os).frozen (p := ⟨b, o, none⟩) h⟩

set_option maxHeartbeats 400000 in
theorem inRange_any (n : Int) (w : World) :
    Calls Tryd.prog 53 #[.int .i64 n] w fun e w' => e = .returned (.bool (Fx.inR n)) ∧ w = w' := by
  by_cases h1 : -4611686018427387904 ≤ n
  · by_cases h2 : n ≤ 4611686018427387904
    · have H := Lib.hid (Fx.inR_yes h1 h2)
      go_enter Tryd.func53, Tryd.ntmps53
      go_wp2
      go_ret
      exact ⟨by rw [H.out]; rfl, rfl⟩
    · have H := Lib.hid (Fx.inR_high (by omega : 4611686018427387904 < n))
      go_enter Tryd.func53, Tryd.ntmps53
      go_wp2
      go_ret
      exact ⟨by rw [H.out]; rfl, rfl⟩
  · have H := Lib.hid (Fx.inR_low (by omega : n < -4611686018427387904))
    go_enter Tryd.func53, Tryd.ntmps53
    go_wp2
    go_ret
    exact ⟨by rw [H.out]; rfl, rfl⟩

set_option maxHeartbeats 400000 in
theorem of_any (n : Int) (w : World) :
    Calls Tryd.prog 36 #[.int .i64 n] w fun e w' => e = .returned (.agg #[.bool (Fx.of n).ok, .int .i64 (Fx.of n).n]) ∧ Below w.heap.size w w' := by
  cases h : Fx.inR n
  · rw [Fx.of_no h]
    go_enter Tryd.func36, Tryd.ntmps36
    go_wp2_with (go_at_call 53; go_must (refine (inRange_any _ _).mono ?_; rintro e w' ⟨rfl, rfl⟩))
    exact bodyPost_ret (v := .agg #[.bool false, .int .i64 0]) (by simp [results, Tryd.results36, go_sem, *]) rfl ⟨rfl, (by repeat (first | exact Below.refl _ _ | assumption | refine Below.setCell ?_ (by first | (simp; done) | omega | (simp; omega) | (simp at *; omega)) _ | refine Below.alloc ?_ (by first | (simp; done) | omega | (simp; omega) | (simp at *; omega)) _ | refine Below.drew ?_ | (refine Below.trans ?_ (Below.mono (by assumption) (by first | (simp; done) | omega | (simp; omega) | (simp at *; omega)))) | (refine Below.trans ?_ (Below.mono (below_regrown _ _ _) (by first | (simp; done) | omega | (simp; omega) | (simp at *; omega))))))⟩
  · rw [Fx.of_yes h]
    go_enter Tryd.func36, Tryd.ntmps36
    go_wp2_with (go_at_call 53; go_must (refine (inRange_any _ _).mono ?_; rintro e w' ⟨rfl, rfl⟩))
    exact bodyPost_ret (v := .agg #[.bool true, .int .i64 n]) (by simp [results, Tryd.results36, go_sem, *]) rfl ⟨rfl, (by repeat (first | exact Below.refl _ _ | assumption | refine Below.setCell ?_ (by first | (simp; done) | omega | (simp; omega) | (simp at *; omega)) _ | refine Below.alloc ?_ (by first | (simp; done) | omega | (simp; omega) | (simp at *; omega)) _ | refine Below.drew ?_ | (refine Below.trans ?_ (Below.mono (by assumption) (by first | (simp; done) | omega | (simp; omega) | (simp at *; omega)))) | (refine Below.trans ?_ (Below.mono (below_regrown _ _ _) (by first | (simp; done) | omega | (simp; omega) | (simp at *; omega))))))⟩

set_option maxHeartbeats 400000 in
theorem int_any (n : Int) (w : World) :
    Calls Tryd.prog 78 #[.int .i64 n] w fun e w' => e = .returned (.agg #[.bool (Fx.of (n * 1000000)).ok, .int .i64 (Fx.of (n * 1000000)).n]) ∧ Below w.heap.size w w' := by
  by_cases h1 : -4611686018427 ≤ n
  · by_cases h2 : n ≤ 4611686018427
    · go_enter Tryd.func78, Tryd.ntmps78
      go_wp2_with (go_at_call 36; go_must (refine (of_any _ _).mono ?_; rintro e w' ⟨rfl, hb⟩; obtain ⟨hc, hf⟩ := bcell hb; (try have hz0 : w.heap.size < w'.heap.size := Nat.lt_of_lt_of_le (by first | assumption | (simp; done) | (simp; omega)) hb.size); (try have hz1 : w.heap.size + 1 < w'.heap.size := Nat.lt_of_lt_of_le (by first | assumption | (simp; done) | (simp; omega)) hb.size); (try have hz2 : w.heap.size + 1 + 1 < w'.heap.size := Nat.lt_of_lt_of_le (by first | assumption | (simp; done) | (simp; omega)) hb.size); have hz := hb.size; (try simp at hz)))
      exact bodyPost_ret (v := (.agg #[.bool (Fx.of (n * 1000000)).ok, .int .i64 (Fx.of (n * 1000000)).n])) (by simp [results, Tryd.results78, go_sem, *]) rfl ⟨rfl, (by repeat (first | exact Below.refl _ _ | assumption | refine Below.setCell ?_ (by first | (simp; done) | omega | (simp; omega) | (simp at *; omega)) _ | refine Below.alloc ?_ (by first | (simp; done) | omega | (simp; omega) | (simp at *; omega)) _ | refine Below.drew ?_ | (refine Below.trans ?_ (Below.mono (by assumption) (by first | (simp; done) | omega | (simp; omega) | (simp at *; omega)))) | (refine Below.trans ?_ (Below.mono (below_regrown _ _ _) (by first | (simp; done) | omega | (simp; omega) | (simp at *; omega))))))⟩
    · rw [Fx.of_no (Fx.inR_high (by omega : 4611686018427387904 < n * 1000000))]
      go_enter Tryd.func78, Tryd.ntmps78
      go_wp2
      exact bodyPost_ret (v := .agg #[.bool false, .int .i64 0]) (by simp [results, Tryd.results78, go_sem, *]) rfl ⟨rfl, (by repeat (first | exact Below.refl _ _ | assumption | refine Below.setCell ?_ (by first | (simp; done) | omega | (simp; omega) | (simp at *; omega)) _ | refine Below.alloc ?_ (by first | (simp; done) | omega | (simp; omega) | (simp at *; omega)) _ | refine Below.drew ?_ | (refine Below.trans ?_ (Below.mono (by assumption) (by first | (simp; done) | omega | (simp; omega) | (simp at *; omega)))) | (refine Below.trans ?_ (Below.mono (below_regrown _ _ _) (by first | (simp; done) | omega | (simp; omega) | (simp at *; omega))))))⟩
  · rw [Fx.of_no (Fx.inR_low (by omega : n * 1000000 < -4611686018427387904))]
    go_enter Tryd.func78, Tryd.ntmps78
    go_wp2
    exact bodyPost_ret (v := .agg #[.bool false, .int .i64 0]) (by simp [results, Tryd.results78, go_sem, *]) rfl ⟨rfl, (by repeat (first | exact Below.refl _ _ | assumption | refine Below.setCell ?_ (by first | (simp; done) | omega | (simp; omega) | (simp at *; omega)) _ | refine Below.alloc ?_ (by first | (simp; done) | omega | (simp; omega) | (simp at *; omega)) _ | refine Below.drew ?_ | (refine Below.trans ?_ (Below.mono (by assumption) (by first | (simp; done) | omega | (simp; omega) | (simp at *; omega)))) | (refine Below.trans ?_ (Below.mono (below_regrown _ _ _) (by first | (simp; done) | omega | (simp; omega) | (simp at *; omega))))))⟩

set_option maxHeartbeats 400000 in
theorem isV_any (b : Bool) (n : Int) (w : World) :
    Calls Tryd.prog 74 #[.agg #[.bool b, .int .i64 n]] w fun e w' => e = .returned (.bool (Fx.isV ⟨b, n⟩)) ∧ Below w.heap.size w w' := by
  cases b
  · rw [Fx.isV_off]
    go_enter Tryd.func74, Tryd.ntmps74
    go_wp2
    go_ret
    exact ⟨by first | rfl | simp, (by repeat (first | exact Below.refl _ _ | assumption | refine Below.setCell ?_ (by first | (simp; done) | omega | (simp; omega) | (simp at *; omega)) _ | refine Below.alloc ?_ (by first | (simp; done) | omega | (simp; omega) | (simp at *; omega)) _ | refine Below.drew ?_ | (refine Below.trans ?_ (Below.mono (by assumption) (by first | (simp; done) | omega | (simp; omega) | (simp at *; omega)))) | (refine Below.trans ?_ (Below.mono (below_regrown _ _ _) (by first | (simp; done) | omega | (simp; omega) | (simp at *; omega))))))⟩
  · rw [Fx.isV_on]
    go_enter Tryd.func74, Tryd.ntmps74
    go_wp2_with (go_at_call 53; go_must (refine (inRange_any _ _).mono ?_; rintro e w' ⟨rfl, rfl⟩))
    go_ret
    exact ⟨rfl, (by repeat (first | exact Below.refl _ _ | assumption | refine Below.setCell ?_ (by first | (simp; done) | omega | (simp; omega) | (simp at *; omega)) _ | refine Below.alloc ?_ (by first | (simp; done) | omega | (simp; omega) | (simp at *; omega)) _ | refine Below.drew ?_ | (refine Below.trans ?_ (Below.mono (by assumption) (by first | (simp; done) | omega | (simp; omega) | (simp at *; omega)))) | (refine Below.trans ?_ (Below.mono (below_regrown _ _ _) (by first | (simp; done) | omega | (simp; omega) | (simp at *; omega))))))⟩

set_option maxHeartbeats 400000 in
theorem isNumber_any (b : Bool) (n : Int) (w : World) :
    Calls Tryd.prog 84 #[.agg #[.bool b, .int .i64 n]] w fun e w' => e = .returned (.bool (Fx.num ⟨b, n⟩)) ∧ Below w.heap.size w w' := by
  cases b
  · go_enter Tryd.func84, Tryd.ntmps84
    go_wp2
    go_ret
    exact ⟨rfl, (by repeat (first | exact Below.refl _ _ | assumption | refine Below.setCell ?_ (by first | (simp; done) | omega | (simp; omega) | (simp at *; omega)) _ | refine Below.alloc ?_ (by first | (simp; done) | omega | (simp; omega) | (simp at *; omega)) _ | refine Below.drew ?_ | (refine Below.trans ?_ (Below.mono (by assumption) (by first | (simp; done) | omega | (simp; omega) | (simp at *; omega)))) | (refine Below.trans ?_ (Below.mono (below_regrown _ _ _) (by first | (simp; done) | omega | (simp; omega) | (simp at *; omega))))))⟩
  · go_enter Tryd.func84, Tryd.ntmps84
    go_wp2_with (go_at_call 53; go_must (refine (inRange_any _ _).mono ?_; rintro e w' ⟨rfl, rfl⟩))
    go_ret
    exact ⟨rfl, (by repeat (first | exact Below.refl _ _ | assumption | refine Below.setCell ?_ (by first | (simp; done) | omega | (simp; omega) | (simp at *; omega)) _ | refine Below.alloc ?_ (by first | (simp; done) | omega | (simp; omega) | (simp at *; omega)) _ | refine Below.drew ?_ | (refine Below.trans ?_ (Below.mono (by assumption) (by first | (simp; done) | omega | (simp; omega) | (simp at *; omega)))) | (refine Below.trans ?_ (Below.mono (below_regrown _ _ _) (by first | (simp; done) | omega | (simp; omega) | (simp at *; omega))))))⟩

end Go.Proofs.YtbakngbmfgnmcaaDoor

namespace Go.Proofs.YtbakngbmfgnmcaaDoor
namespace Wh

def At (l : List (Int × Int)) (i : Nat) : Int × Int := l.getD i (0, 0)
def num (n : Int) : Bool := decide (1 ≤ n) && decide (n ≤ 16777216)
def fol (a b : Int × Int) : Bool := decide (a.1 < b.1) && decide (b.1 % a.1 = 0) && decide (a.1 * a.2 < b.1 * b.2) && decide (b.1 / a.1 ≤ a.2)
def stp (l : List (Int × Int)) (i : Nat) : Bool := num (At l i).1 && num (At l i).2 && (decide (i = 0) || fol (At l (i - 1)) (At l i))
def alls (l : List (Int × Int)) : Nat → Bool
  | 0 => true
  | k + 1 => alls l k && stp l k
def sm (l : List (Int × Int)) : Nat → Int
  | 0 => 0
  | k + 1 => sm l k + 12 * (At l k).2
def ends (l : List (Int × Int)) (k : Nat) : Int := 16 + 12 * (l.length : Int) + sm l k
def lsp (l : List (Int × Int)) : Int := (At l (l.length - 1)).1 * (At l (l.length - 1)).2
def kind (ag : Int) : Bool := decide (1 ≤ ag) && decide (ag ≤ 5)
def av (l : List (Int × Int)) : Bool := decide (1 ≤ l.length) && decide (l.length ≤ 8) && alls l l.length && decide (ends l l.length ≤ 1048576) && decide (lsp l ≤ 4294967295)
def val (ag xf : Int) (l : List (Int × Int)) : Bool := kind ag && decide (0 ≤ xf) && decide (xf ≤ 1000000) && av l

theorem num_t {n : Int} (h1 : 1 ≤ n) (h2 : n ≤ 16777216) : num n = true := by unfold num; simp [h1, h2]
theorem num_bd {n : Int} (h : num n = true) : 1 ≤ n ∧ n ≤ 16777216 := by unfold num at h; simpa using h
theorem num_f {n : Int} (h : num n = false) : n < 1 ∨ 16777216 < n := by
  unfold num at h
  simp at h
  omega
theorem kind_f {n : Int} (h : n < 1 ∨ 5 < n) : kind n = false := by
  unfold kind
  simp
  omega
theorem kind_bd {n : Int} (h : kind n = true) : 1 ≤ n ∧ n ≤ 5 := by unfold kind at h; simpa using h

theorem alls_less {l : List (Int × Int)} {k n : Nat} (hkn : k ≤ n) (h : alls l n = true) : alls l k = true := by
  induction n with
  | zero => obtain rfl : k = 0 := by omega
            exact h
  | succ n ih =>
    by_cases e : k = n + 1
    · subst e; exact h
    · exact ih (by omega) (by unfold alls at h; simp at h; exact h.1)
theorem alls_stp {l : List (Int × Int)} {k n : Nat} (hkn : k < n) (h : alls l n = true) : stp l k = true := by
  have := alls_less (Nat.succ_le_of_lt hkn) h
  unfold alls at this
  simp at this
  exact this.2
theorem alls_f {l : List (Int × Int)} {k n : Nat} (hkn : k < n) (h : stp l k = false) : alls l n = false := by
  cases e : alls l n with
  | false => rfl
  | true => rw [alls_stp hkn e] at h; cases h
theorem alls_num {l : List (Int × Int)} {k n : Nat} (hkn : k < n) (h : alls l n = true) : (1 ≤ (At l k).1 ∧ (At l k).1 ≤ 16777216) ∧ (1 ≤ (At l k).2 ∧ (At l k).2 ≤ 16777216) := by
  have := alls_stp hkn h
  unfold stp at this
  simp only [Bool.and_eq_true] at this
  exact ⟨num_bd this.1.1, num_bd this.1.2⟩
theorem sm_bd {l : List (Int × Int)} {n : Nat} (h : ∀ i, i < n → 1 ≤ (At l i).2 ∧ (At l i).2 ≤ 16777216) : ∀ k, k ≤ n → 12 * (k : Int) ≤ sm l k ∧ sm l k ≤ 201326592 * (k : Int)
  | 0, _ => by simp [sm]
  | k + 1, hk => by
    have := sm_bd h k (by omega)
    have := h k (by omega)
    unfold sm
    omega
theorem sm_le {l : List (Int × Int)} {n : Nat} (h : ∀ i, i < n → 1 ≤ (At l i).2 ∧ (At l i).2 ≤ 16777216) {k : Nat} : ∀ m, k ≤ m → m ≤ n → sm l k + 12 * ((m : Int) - (k : Int)) ≤ sm l m
  | 0, hk, _ => by obtain rfl : k = 0 := by omega
                   simp
  | m + 1, hk, hm => by
    by_cases e : k = m + 1
    · subst e; simp
    · have := sm_le (k := k) h m (by omega) (by omega)
      have := h m (by omega)
      rw [sm]
      omega
theorem ends_bd {l : List (Int × Int)} (h8 : l.length ≤ 8) (h : ∀ i, i < l.length → 1 ≤ (At l i).2 ∧ (At l i).2 ≤ 16777216) (k : Nat) (hk : k ≤ l.length) : 16 ≤ ends l k ∧ ends l k ≤ 2000000000 := by
  have := sm_bd h k hk
  unfold ends
  omega
theorem ends_succ (l : List (Int × Int)) (k : Nat) : ends l (k + 1) = ends l k + 12 * (At l k).2 := by unfold ends; rw [sm]; omega
theorem ends_zero (l : List (Int × Int)) : ends l 0 = 16 + 12 * (l.length : Int) := by unfold ends; rw [sm]; omega
/-- The sum as the document makes it. -/
def run (l : List (Int × Int)) (k : Nat) : Int := 16 + 12 * (k : Int) + sm l k
theorem run_succ (l : List (Int × Int)) (k : Nat) : run l (k + 1) = run l k + 12 + 12 * (At l k).2 := by unfold run; rw [sm]; omega
theorem run_zero (l : List (Int × Int)) : run l 0 = 16 := by unfold run; rw [sm]; omega
theorem run_all (l : List (Int × Int)) : run l l.length = ends l l.length := rfl
theorem run_bd {l : List (Int × Int)} (h8 : l.length ≤ 8) (h : ∀ i, i < l.length → 1 ≤ (At l i).2 ∧ (At l i).2 ≤ 16777216) (k : Nat) (hk : k ≤ l.length) : 16 ≤ run l k ∧ run l k ≤ 2000000000 := by
  have := sm_bd h k hk
  unfold run
  omega
theorem run_le {l : List (Int × Int)} (h : ∀ i, i < l.length → 1 ≤ (At l i).2 ∧ (At l i).2 ≤ 16777216) (k : Nat) (hk : k ≤ l.length) : run l k ≤ ends l l.length := by
  have := sm_le h l.length hk (Nat.le_refl _)
  unfold run ends
  omega
theorem alls_cnt {l : List (Int × Int)} {n : Nat} (h : alls l n = true) : ∀ i, i < n → 1 ≤ (At l i).2 ∧ (At l i).2 ≤ 16777216 := fun _ hi => (alls_num hi h).2

theorem av_long {l : List (Int × Int)} (h : 8 < l.length) : av l = false := by
  have : decide (l.length ≤ 8) = false := decide_eq_false (by omega)
  unfold av
  simp [this]
theorem av_nil {l : List (Int × Int)} (h : l.length = 0) : av l = false := by
  have : decide (1 ≤ l.length) = false := decide_eq_false (by omega)
  unfold av
  simp [this]
theorem av_stp {l : List (Int × Int)} {k : Nat} (hk : k < l.length) (h : stp l k = false) : av l = false := by
  unfold av
  simp [alls_f hk h]
theorem av_big {l : List (Int × Int)} (h : 1048576 < ends l l.length) : av l = false := by
  have : decide (ends l l.length ≤ 1048576) = false := decide_eq_false (by omega)
  unfold av
  simp [this]
theorem av_end {l : List (Int × Int)} (h1 : 1 ≤ l.length) (h8 : l.length ≤ 8) (ha : alls l l.length = true) (he : ends l l.length ≤ 1048576) : av l = decide (lsp l ≤ 4294967295) := by
  unfold av
  simp [h1, h8, ha, he]
theorem av_t {l : List (Int × Int)} (h : av l = true) : 1 ≤ l.length ∧ l.length ≤ 8 ∧ alls l l.length = true ∧ ends l l.length ≤ 1048576 ∧ lsp l ≤ 4294967295 := by
  unfold av at h
  simp only [Bool.and_eq_true, decide_eq_true_eq] at h
  exact ⟨h.1.1.1.1, h.1.1.1.2, h.1.1.2, h.1.2, h.2⟩
theorem val_t {ag xf : Int} {l : List (Int × Int)} (h : val ag xf l = true) : (1 ≤ ag ∧ ag ≤ 5) ∧ 0 ≤ xf ∧ xf ≤ 1000000 ∧ av l = true := by
  unfold val at h
  simp only [Bool.and_eq_true, decide_eq_true_eq] at h
  exact ⟨kind_bd h.1.1.1, h.1.1.2, h.1.2, h.2⟩
theorem val_head {ag xf : Int} {l : List (Int × Int)} (h : ag < 1 ∨ 5 < ag ∨ xf < 0 ∨ 1000000 < xf ∨ av l = false) : val ag xf l = false := by
  unfold val
  rcases h with h | h | h | h | h
  · simp [kind_f (.inl h)]
  · simp [kind_f (.inr h)]
  · have : decide (0 ≤ xf) = false := decide_eq_false (by omega)
    simp [this]
  · have : decide (xf ≤ 1000000) = false := decide_eq_false (by omega)
    simp [this]
  · simp [h]
theorem kind_t {ag : Int} (h1 : 1 ≤ ag) (h2 : ag ≤ 5) : kind ag = true := by unfold kind; simp [h1, h2]
theorem val_av {ag xf : Int} {l : List (Int × Int)} (h1 : 1 ≤ ag) (h2 : ag ≤ 5) (h3 : 0 ≤ xf) (h4 : xf ≤ 1000000) : val ag xf l = av l := by
  unfold val
  simp [kind_t h1 h2, h3, h4]
theorem lsp_bd {l : List (Int × Int)} (h1 : 1 ≤ l.length) (ha : alls l l.length = true) : 1 ≤ lsp l ∧ lsp l ≤ 281474976710656 := by
  have := alls_num (k := l.length - 1) (by omega) ha
  unfold lsp
  constructor
  · calc (1 : Int) = 1 * 1 := rfl
      _ ≤ _ := Int.mul_le_mul this.1.1 this.2.1 (by omega) (by omega)
  · calc _ ≤ (16777216 : Int) * 16777216 := Int.mul_le_mul this.1.2 this.2.2 (by omega) (by omega)
      _ = _ := rfl
theorem mul_bd {a b : Int} (h1 : 1 ≤ a) (h2 : a ≤ 16777216) (h3 : 1 ≤ b) (h4 : b ≤ 16777216) : 1 ≤ a * b ∧ a * b ≤ 281474976710656 := by
  constructor
  · calc (1 : Int) = 1 * 1 := rfl
      _ ≤ _ := Int.mul_le_mul h1 h3 (by omega) (by omega)
  · calc a * b ≤ (16777216 : Int) * 16777216 := Int.mul_le_mul h2 h4 (by omega) (by omega)
      _ = _ := rfl
/-- What a step is, told by its parts. -/
theorem stp_f1 {l : List (Int × Int)} {k : Nat} (h : num (At l k).1 = false) : stp l k = false := by unfold stp; simp [h]
theorem stp_f2 {l : List (Int × Int)} {k : Nat} (h : num (At l k).2 = false) : stp l k = false := by unfold stp; simp [h]
theorem stp_f3 {l : List (Int × Int)} {k : Nat} (h0 : 0 < k) (h : fol (At l (k - 1)) (At l k) = false) : stp l k = false := by
  have : decide (k = 0) = false := decide_eq_false (by omega)
  unfold stp
  simp [h, this]
theorem stp_t {l : List (Int × Int)} {k : Nat} (h1 : num (At l k).1 = true) (h2 : num (At l k).2 = true) (h : k = 0 ∨ fol (At l (k - 1)) (At l k) = true) : stp l k = true := by
  unfold stp
  rw [h1, h2]
  rcases h with h | h
  · simp [h]
  · simp [h]
theorem alls_succ {l : List (Int × Int)} {k : Nat} (h : alls l k = true) (h2 : stp l k = true) : alls l (k + 1) = true := by unfold alls; simp [h, h2]
/-- The four tests of two archives side by side. -/
theorem fol_1 {a b : Int × Int} (h : b.1 ≤ a.1) : fol a b = false := by
  have : decide (a.1 < b.1) = false := decide_eq_false (by omega)
  unfold fol; simp [this]
theorem fol_2 {a b : Int × Int} (h : b.1 % a.1 ≠ 0) : fol a b = false := by
  have : decide (b.1 % a.1 = 0) = false := by simp [h]
  unfold fol; simp [this]
theorem fol_3 {a b : Int × Int} (h : b.1 * b.2 ≤ a.1 * a.2) : fol a b = false := by
  have : decide (a.1 * a.2 < b.1 * b.2) = false := decide_eq_false (by omega)
  unfold fol; simp [this]
theorem fol_4 {a b : Int × Int} (h1 : a.1 < b.1) (h2 : b.1 % a.1 = 0) (h3 : a.1 * a.2 < b.1 * b.2) : fol a b = decide (b.1 / a.1 ≤ a.2) := by unfold fol; simp [h1, h2, h3]
end Wh
end Go.Proofs.YtbakngbmfgnmcaaDoor

namespace Go.Proofs.YtbakngbmfgnmcaaDoor
open Go.RowKit
open Wh (At)



/-- The cells of a row of archives. -/
structure Ars (w : World) (b off : Nat) (l : List (Int × Int)) : Prop where
  lt : b < w.heap.size
  st : ∀ i, i < l.length → w.cell? ⟨b, off + i * 2, none⟩ = some (.int .i64 (At l i).1)
  ct : ∀ i, i < l.length → w.cell? ⟨b, off + i * 2 + 1, none⟩ = some (.int .i64 (At l i).2)
theorem Ars.below {w w' : World} {b off : Nat} {l : List (Int × Int)} (h : Ars w b off l) (hb : Below w.heap.size w w') : Ars w' b off l :=
  ⟨Nat.lt_of_lt_of_le h.lt hb.size, fun i hi => (hb.cell (p := ⟨b, off + i * 2, none⟩) h.lt).trans (h.st i hi), fun i hi => (hb.cell (p := ⟨b, off + i * 2 + 1, none⟩) h.lt).trans (h.ct i hi)⟩
theorem Ars.alloc {w : World} {b off : Nat} {l : List (Int × Int)} (h : Ars w b off l) (o : Obj) : Ars (w.alloc o) b off l := h.below ((Below.refl _ _).alloc (Nat.le_refl _) _)

set_option maxHeartbeats 400000 in
theorem isNum_any (n : Int) (w : World) :
    Calls Tryd.prog 59 #[.int .i64 n] w fun e w' => e = .returned (.bool (Wh.num n)) ∧ w = w' := by
  by_cases h1 : 1 ≤ n
  · by_cases h2 : n ≤ 16777216
    · have H := Lib.hid (Wh.num_t h1 h2)
      go_enter Tryd.func59, Tryd.ntmps59
      go_wp2
      go_ret
      exact ⟨by rw [H.out]; rfl, rfl⟩
    · have H := Lib.hid (show Wh.num n = false by unfold Wh.num; simp [h2])
      go_enter Tryd.func59, Tryd.ntmps59
      go_wp2
      go_ret
      exact ⟨by rw [H.out]; rfl, rfl⟩
  · have H := Lib.hid (show Wh.num n = false by unfold Wh.num; simp [h1])
    go_enter Tryd.func59, Tryd.ntmps59
    go_wp2
    go_ret
    exact ⟨by rw [H.out]; rfl, rfl⟩

set_option maxHeartbeats 400000 in
theorem isKind_any (n : Int) (w : World) :
    Calls Tryd.prog 47 #[.int .i64 n] w fun e w' => e = .returned (.bool (Wh.kind n)) ∧ w = w' := by
  by_cases h1 : n < 1 ∨ 5 < n
  · have H := Lib.hid (Wh.kind_f h1)
    have d1 : (n == 1) = false := by simp; omega
    have d2 : (n == 2) = false := by simp; omega
    have d3 : (n == 3) = false := by simp; omega
    have d4 : (n == 4) = false := by simp; omega
    have d5 : (n == 5) = false := by simp; omega
    clear h1
    go_enter Tryd.func47, Tryd.ntmps47
    go_wp2
    go_ret
    exact ⟨by rw [H.out]; rfl, rfl⟩
  · have H := Lib.hid (Wh.kind_t (ag := n) (by omega) (by omega))
    have hc : n = 1 ∨ n = 2 ∨ n = 3 ∨ n = 4 ∨ n = 5 := by omega
    clear h1
    rcases hc with rfl | rfl | rfl | rfl | rfl
    all_goals
      go_enter Tryd.func47, Tryd.ntmps47
      go_wp2
      go_ret
      exact ⟨by rw [H.out]; rfl, rfl⟩

set_option maxHeartbeats 400000 in
theorem headBytes_any (n : Int) (h1 : 0 ≤ n) (h2 : n ≤ 1000000000000) (w : World) :
    Calls Tryd.prog 23 #[.int .i64 n] w fun e w' => e = .returned (.int .i64 (16 + n * 12)) ∧ w = w' := by
  go_enter Tryd.func23, Tryd.ntmps23
  go_wp2
  go_ret
  exact ⟨rfl, rfl⟩

set_option maxHeartbeats 400000 in
theorem span_any (s c : Int) (h : IntKind.i64.wrap (s * c) = s * c) (w : World) :
    Calls Tryd.prog 49 #[.agg #[.int .i64 s, .int .i64 c]] w fun e w' => e = .returned (.int .i64 (s * c)) ∧ Below w.heap.size w w' := by
  generalize hq : s * c = q at h
  have HQ := Lib.hid hq
  clear hq
  have hw : IntKind.i64.wrap (s * c) = q := by rw [HQ.out]; exact h
  clear h
  go_enter Tryd.func49, Tryd.ntmps49
  go_wp2
  go_ret
  exact ⟨rfl, (by repeat (first | exact Below.refl _ _ | assumption | refine Below.setCell ?_ (by first | (simp; done) | omega | (simp; omega) | (simp at *; omega)) _ | refine Below.alloc ?_ (by first | (simp; done) | omega | (simp; omega) | (simp at *; omega)) _ | refine Below.drew ?_ | (refine Below.trans ?_ (Below.mono (by assumption) (by first | (simp; done) | omega | (simp; omega) | (simp at *; omega)))) | (refine Below.trans ?_ (Below.mono (below_regrown _ _ _) (by first | (simp; done) | omega | (simp; omega) | (simp at *; omega))))))⟩

set_option maxHeartbeats 400000 in
theorem lastSpan_any (l : List (Int × Int)) (b off cap : Nat) (w : World) (hA : Ars w b off l) (h1 : 1 ≤ l.length) (h8 : l.length ≤ 8) (hw : IntKind.i64.wrap (Wh.lsp l) = Wh.lsp l) :
    Calls Tryd.prog 25 #[.slice (some ⟨b, off, none⟩) l.length cap] w fun e w' => e = .returned (.int .i64 (Wh.lsp l)) ∧ Below w.heap.size w w' := by
  have HS := Lib.hid (span_any (At l (l.length - 1)).1 (At l (l.length - 1)).2 hw)
  have HE : Hid (Wh.lsp l = (At l (l.length - 1)).1 * (At l (l.length - 1)).2) := Lib.hid rfl
  obtain ⟨k, hk⟩ : ∃ k, l.length = k + 1 := ⟨l.length - 1, by omega⟩
  have c0 := hA.st k (by omega)
  have c1 := hA.ct k (by omega)
  have hlt := hA.lt
  rw [hk] at HS HE h8 ⊢
  simp only [Nat.add_sub_cancel] at HS HE
  clear hw hA h1 hk
  generalize (At l k) = a at *
  obtain ⟨s, c⟩ := a
  have hkn : (((k + 1 : Nat) : Int) - 1) = (k : Int) := by omega
  go_enter Tryd.func25, Tryd.ntmps25
  go_wp2_with (go_at_call 49; go_must (refine (HS.out _).mono ?_; rintro e w' ⟨rfl, hb⟩; obtain ⟨hc, hf⟩ := bcell hb; (try have hz0 : w.heap.size < w'.heap.size := Nat.lt_of_lt_of_le (by first | assumption | (simp; done) | (simp; omega)) hb.size); (try have hz1 : w.heap.size + 1 < w'.heap.size := Nat.lt_of_lt_of_le (by first | assumption | (simp; done) | (simp; omega)) hb.size); (try have hz2 : w.heap.size + 1 + 1 < w'.heap.size := Nat.lt_of_lt_of_le (by first | assumption | (simp; done) | (simp; omega)) hb.size); have hz := hb.size; (try simp at hz)))
  go_ret
  exact ⟨by rw [HE.out]; rfl, (by repeat (first | exact Below.refl _ _ | assumption | refine Below.setCell ?_ (by first | (simp; done) | omega | (simp; omega) | (simp at *; omega)) _ | refine Below.alloc ?_ (by first | (simp; done) | omega | (simp; omega) | (simp at *; omega)) _ | refine Below.drew ?_ | (refine Below.trans ?_ (Below.mono (by assumption) (by first | (simp; done) | omega | (simp; omega) | (simp at *; omega)))) | (refine Below.trans ?_ (Below.mono (below_regrown _ _ _) (by first | (simp; done) | omega | (simp; omega) | (simp at *; omega))))))⟩
end Go.Proofs.YtbakngbmfgnmcaaDoor

namespace Go.Proofs.YtbakngbmfgnmcaaDoor
open Go.RowKit Go.Sort
open Wh (At)

set_option maxRecDepth 100000 in
set_option maxHeartbeats 1000000 in
theorem follows_any (s c t d : Int) (h1 : 1 ≤ s) (h2 : s ≤ 16777216) (h3 : 1 ≤ c) (h4 : c ≤ 16777216) (h5 : 1 ≤ t) (h6 : t ≤ 16777216) (h7 : 1 ≤ d) (h8 : d ≤ 16777216) (w : World) :
    Calls Tryd.prog 60 #[.agg #[.int .i64 s, .int .i64 c], .agg #[.int .i64 t, .int .i64 d]] w fun e w' => e = .returned (.bool (Wh.fol (s, c) (t, d))) ∧ Below w.heap.size w w' := by
  obtain ⟨kc, kf⟩ := kgrown ((w.alloc (.cells #[.int .i64 s, .int .i64 c] 24)).alloc (.cells #[.int .i64 t, .int .i64 d] 24))
  have bs := Wh.mul_bd h1 h2 h3 h4
  have bt := Wh.mul_bd h5 h6 h7 h8
  have HS1 := Lib.hid (span_any s c (IntWalk.i64_in _ (by omega)))
  have HS2 := Lib.hid (span_any t d (IntWalk.i64_in _ (by omega)))
  have hm : t.tmod s = t % s := Int.tmod_eq_emod_of_nonneg (by omega)
  have hd : t.tdiv s = t / s := Int.tdiv_eq_ediv_of_nonneg (by omega)
  have hz : (s == 0) = false := by simp; omega
  have hdb : 0 ≤ t / s ∧ t / s ≤ t := ⟨Int.ediv_nonneg (by omega) (by omega), Int.ediv_le_self _ (by omega)⟩
  have hdw : IntKind.i64.wrap (t / s) = t / s := IntWalk.i64_in _ (by omega)
  by_cases g1 : t ≤ s
  · have H := Lib.hid (Wh.fol_1 (a := (s, c)) (b := (t, d)) g1)
    have e1 : decide (s < t) = false := decide_eq_false (by omega)
    go_enter Tryd.func60, Tryd.ntmps60
    go_wp2_with fail
    refine wp_region_quiet_below (by kernel_rfl) (by kernel_rfl) ?_
    repeat (go_big_quiet_step (first
      | (go_at_call 49; exact Calls.regrown_of (HS2.out _))
      | (go_at_call 49; exact Calls.regrown_of (HS1.out _))))
    refine wpQuiet_nil ?_
    intro _ hw'
    obtain ⟨⟨dq, osq⟩, hw''⟩ := hw'
    subst hw''
    go_wp2
    go_ret
    exact ⟨by rw [H.out]; rfl, (by repeat (first | exact Below.refl _ _ | assumption | refine Below.setCell ?_ (by first | (simp; done) | omega | (simp; omega) | (simp at *; omega)) _ | refine Below.alloc ?_ (by first | (simp; done) | omega | (simp; omega) | (simp at *; omega)) _ | refine Below.drew ?_ | (refine Below.trans ?_ (Below.mono (by assumption) (by first | (simp; done) | omega | (simp; omega) | (simp at *; omega)))) | (refine Below.trans ?_ (Below.mono (below_regrown _ _ _) (by first | (simp; done) | omega | (simp; omega) | (simp at *; omega))))))⟩
  · have e1 : decide (s < t) = true := decide_eq_true (by omega)
    by_cases g2 : t % s = 0
    · have e2 : (t % s == 0) = true := by simp [g2]
      by_cases g3 : t * d ≤ s * c
      · have H := Lib.hid (Wh.fol_3 (a := (s, c)) (b := (t, d)) g3)
        have e3 : decide (s * c < t * d) = false := decide_eq_false (by omega)
        clear g2
        go_enter Tryd.func60, Tryd.ntmps60
        go_wp2_with fail
        refine wp_region_quiet_below (by kernel_rfl) (by kernel_rfl) ?_
        repeat (go_big_quiet_step (first
          | (go_at_call 49; exact Calls.regrown_of (HS2.out _))
          | (go_at_call 49; exact Calls.regrown_of (HS1.out _))))
        refine wpQuiet_nil ?_
        intro _ hw'
        obtain ⟨⟨dq, osq⟩, hw''⟩ := hw'
        subst hw''
        go_wp2
        go_ret
        exact ⟨by rw [H.out]; rfl, (by repeat (first | exact Below.refl _ _ | assumption | refine Below.setCell ?_ (by first | (simp; done) | omega | (simp; omega) | (simp at *; omega)) _ | refine Below.alloc ?_ (by first | (simp; done) | omega | (simp; omega) | (simp at *; omega)) _ | refine Below.drew ?_ | (refine Below.trans ?_ (Below.mono (by assumption) (by first | (simp; done) | omega | (simp; omega) | (simp at *; omega)))) | (refine Below.trans ?_ (Below.mono (below_regrown _ _ _) (by first | (simp; done) | omega | (simp; omega) | (simp at *; omega))))))⟩
      · have H := Lib.hid (Wh.fol_4 (a := (s, c)) (b := (t, d)) (by show s < t; omega) g2 (by show s * c < t * d; omega))
        have e3 : decide (s * c < t * d) = true := decide_eq_true (by omega)
        clear g2
        go_enter Tryd.func60, Tryd.ntmps60
        go_wp2_with fail
        refine wp_region_quiet_below (by kernel_rfl) (by kernel_rfl) ?_
        repeat (go_big_quiet_step (first
          | (go_at_call 49; exact Calls.regrown_of (HS2.out _))
          | (go_at_call 49; exact Calls.regrown_of (HS1.out _))))
        refine wpQuiet_nil ?_
        intro _ hw'
        obtain ⟨⟨dq, osq⟩, hw''⟩ := hw'
        subst hw''
        go_wp2
        go_ret
        exact ⟨by rw [H.out]; rfl, (by repeat (first | exact Below.refl _ _ | assumption | refine Below.setCell ?_ (by first | (simp; done) | omega | (simp; omega) | (simp at *; omega)) _ | refine Below.alloc ?_ (by first | (simp; done) | omega | (simp; omega) | (simp at *; omega)) _ | refine Below.drew ?_ | (refine Below.trans ?_ (Below.mono (by assumption) (by first | (simp; done) | omega | (simp; omega) | (simp at *; omega)))) | (refine Below.trans ?_ (Below.mono (below_regrown _ _ _) (by first | (simp; done) | omega | (simp; omega) | (simp at *; omega))))))⟩
    · have H := Lib.hid (Wh.fol_2 (a := (s, c)) (b := (t, d)) g2)
      have e2 : (t % s == 0) = false := by simp [g2]
      clear g2
      go_enter Tryd.func60, Tryd.ntmps60
      go_wp2_with fail
      refine wp_region_quiet_below (by kernel_rfl) (by kernel_rfl) ?_
      repeat (go_big_quiet_step (first
        | (go_at_call 49; exact Calls.regrown_of (HS2.out _))
        | (go_at_call 49; exact Calls.regrown_of (HS1.out _))))
      refine wpQuiet_nil ?_
      intro _ hw'
      obtain ⟨⟨dq, osq⟩, hw''⟩ := hw'
      subst hw''
      go_wp2
      go_ret
      exact ⟨by rw [H.out]; rfl, (by repeat (first | exact Below.refl _ _ | assumption | refine Below.setCell ?_ (by first | (simp; done) | omega | (simp; omega) | (simp at *; omega)) _ | refine Below.alloc ?_ (by first | (simp; done) | omega | (simp; omega) | (simp at *; omega)) _ | refine Below.drew ?_ | (refine Below.trans ?_ (Below.mono (by assumption) (by first | (simp; done) | omega | (simp; omega) | (simp at *; omega)))) | (refine Below.trans ?_ (Below.mono (below_regrown _ _ _) (by first | (simp; done) | omega | (simp; omega) | (simp at *; omega))))))⟩

end Go.Proofs.YtbakngbmfgnmcaaDoor
