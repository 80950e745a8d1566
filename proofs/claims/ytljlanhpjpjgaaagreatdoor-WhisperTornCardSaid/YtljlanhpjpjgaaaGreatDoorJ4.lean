/- VrCrash VrSound VrRead FxPure FxBase -/
import Derived.Test.YtljlanhpjpjgaaaGreatDoorJ1
import Derived.Test.YtljlanhpjpjgaaaGreatDoorJ3
import Derived.WalkKit
import Derived.Test.YtljlanhpjpjgaaaGreatDoorRows
import Derived.WalkSpells
import Derived.WalkLawsBesides
import Derived.Deep.QuietTactic
import Derived.BigQuiet
import Derived.Lib.QuietBelow
import Derived.Lib.Hide
namespace Go.Proofs.YtljlanhpjpjgaaaGreatDoor
set_option maxRecDepth 100000
set_option maxHeartbeats 8000000
section
open Go.RowKit
open Me
namespace Vf
def rep (was : List Fl) (l : List Ac) : List Fl := l.foldl does was
def torn (a : Ac) (m : Int) : Nat := (max 0 (min m (a.p.length : Int))).toNat
def cut (a : Ac) (m : Int) : Ac := { a with p := a.p.take (torn a m) }
def crash (S : Sv) (n m : Int) : List Fl := match S.l[n.toNat]? with
 | some a => if a.kind = 2 then does (rep S.was (S.l.take n.toNat)) (cut a m) else rep S.was (S.l.take n.toNat)
 | none => rep S.was S.l
theorem crash_all {S : Sv} {n m : Int} (h : S.l.length ≤ n.toNat) : crash S n m = rep S.was S.l := by
 unfold crash
 rw [List.getElem?_eq_none h]
theorem crash_clean {S : Sv} {n m : Int} {k : Nat} (hk : n.toNat = k) (h : k < S.l.length) (hn : ¬ S.l[k].kind = 2) : crash S n m = rep S.was (S.l.take k) := by
 subst hk
 unfold crash
 rw [List.getElem?_eq_getElem h]
 simp [hn]
theorem crash_torn {S : Sv} {n m : Int} {k : Nat} (hk : n.toNat = k) (h : k < S.l.length) (hn : S.l[k].kind = 2) : crash S n m = does (rep S.was (S.l.take k)) (cut S.l[k] m) := by
 subst hk
 unfold crash
 rw [List.getElem?_eq_getElem h]
 simp [hn]
theorem fits_cut {l : List Fl} {a : Ac} (m : Int) (h : fits l a) : fits l (cut a m) := by
 intro hk k hkl e
 have := h hk k hkl e
 have h2 : (cut a m).p.length ≤ a.p.length := by unfold cut; simp; omega
 have h3 : (cut a m).off = a.off := rfl
 omega
end Vf
end
section
namespace Vf
theorem used_append (l m : List Fl) : used (l ++ m) = used l + used m := by unfold used; rw [List.map_append, List.sum_append]
theorem used_cons (f : Fl) (l : List Fl) : used (f :: l) = f.b.length + used l := by unfold used; rw [List.map_cons, List.sum_cons]
theorem used_one (a : Ac) (i : Int) (k : Nat) (x : Fl) (h : (k : Int) = i → a.kind = 2 → a.off + a.p.length ≤ x.b.length) : used (one a i k x) ≤ x.b.length := by
 unfold one
 split
 ·rename_i hc
  rw [used_cons]
  show (upd x.b a.off a.p).length + used [] ≤ _
  rw [upd_len (h hc.1 hc.2)]
  simp [used]
 ·split
  ·simp [used]
  ·simp [used]
theorem used_goes (a : Ac) (i : Int) : ∀ (l : List Fl) (k : Nat), (∀ (j : Nat) (hj : j < l.length), ((k + j : Nat) : Int) = i → a.kind = 2 → a.off + a.p.length ≤ l[j].b.length) → used (goes a i k l) ≤ used l
 | [], _, _ => by simp [goes]
 | x :: r, k, h => by
   rw [goes, used_append, used_cons]
   have h1 := used_one a i k x (fun e e2 => by have := h 0 (by simp) (by simpa using e) e2; simpa using this)
   have h2 := used_goes a i r (k + 1) (fun j hj e e2 => by
    have := h (j + 1) (by simpa using hj) (by rw [← e]; congr 1; omega) e2
    simpa using this)
   omega
theorem used_does (l : List Fl) (a : Ac) (h : fits l a) : used (does l a) ≤ used l + (if a.kind = 1 then a.p.length else 0) := by
 unfold does
 rw [used_append]
 have h1 := used_goes a (ix l a.name) l 0 (fun j hj e e2 => h e2 j hj (by simpa using e))
 split
 ·rw [used_cons]
  simp [used] at h1 ⊢
  omega
 ·simp [used] at h1 ⊢
  omega
structure Inv (c : Nat) (S : Sv) : Prop where
 room0 : 0 ≤ S.room
 room1 : S.room ≤ 1073741824
 now : S.now = rep S.was S.l
 len : S.l.length ≤ c
 all : ∀ k, k ≤ S.l.length → (rep S.was (S.l.take k)).length ≤ c ∧ (used (rep S.was (S.l.take k)) : Int) ≤ S.room ∧ ∀ h : k < S.l.length, fits (rep S.was (S.l.take k)) S.l[k] ∧ S.l[k].off ≤ 4294967296
theorem Inv.last {c : Nat} {S : Sv} (h : Inv c S) : S.now.length ≤ c ∧ (used S.now : Int) ≤ S.room := by
 have := h.all S.l.length (Nat.le_refl _)
 rw [List.take_length, ← h.now] at this
 exact ⟨this.1, this.2.1⟩
theorem Inv.new {room : Int} (h0 : 0 ≤ room) (h1 : room ≤ 1073741824) : Inv 0 ⟨room, [], [], []⟩ := by
 refine ⟨h0, h1, rfl, Nat.le_refl _, fun k hk => ?_⟩
 have hk0 : k = 0 := Nat.le_zero.1 hk
 subst hk0
 exact ⟨Nat.le_refl _, by simpa [rep, used] using h0, fun h => absurd h (Nat.lt_irrefl _)⟩
theorem Inv.mono {c d : Nat} {S : Sv} (h : Inv c S) (hd : c ≤ d) : Inv d S := ⟨h.room0, h.room1, h.now, Nat.le_trans h.len hd, fun k hk => ⟨Nat.le_trans (h.all k hk).1 hd, (h.all k hk).2⟩⟩
theorem Inv.plain {c : Nat} {room : Int} {r : List Fl} (h0 : 0 ≤ room) (h1 : room ≤ 1073741824) (hl : r.length ≤ c) (hu : (used r : Int) ≤ room) : Inv c ⟨room, r, r, []⟩ := by
 refine ⟨h0, h1, rfl, Nat.zero_le _, fun k hk => ?_⟩
 have hk0 : k = 0 := Nat.le_zero.1 hk
 subst hk0
 exact ⟨hl, hu, fun h => absurd h (Nat.lt_irrefl _)⟩
theorem Inv.sync {c : Nat} {S : Sv} (h : Inv c S) : Inv c { S with was := S.now, l := [] } := Inv.plain h.room0 h.room1 h.last.1 h.last.2
theorem rep_append (was : List Fl) (l : List Ac) (a : Ac) : rep was (l ++ [a]) = does (rep was l) a := by unfold rep; rw [List.foldl_append]; rfl
theorem Inv.act {c : Nat} {S : Sv} {a : Ac} (h : Inv c S) (hf : fits S.now a) (ho : a.off ≤ 4294967296) (hu : (used (does S.now a) : Int) ≤ S.room) : Inv (c + 1) (S.act a) := by
 have hlen : (S.l ++ [a]).length = S.l.length + 1 := by simp
 refine ⟨h.room0, h.room1, ?_, ?_, fun k hk => ?_⟩
 ·show does S.now a = rep S.was (S.l ++ [a])
  rw [rep_append, ← h.now]
 ·show (S.l ++ [a]).length ≤ c + 1
  have := h.len
  omega
 ·have hk : k ≤ (S.l ++ [a]).length := hk
  show (rep S.was ((S.l ++ [a]).take k)).length ≤ c + 1 ∧ (used (rep S.was ((S.l ++ [a]).take k)) : Int) ≤ S.room ∧ ∀ h : k < (S.l ++ [a]).length, fits (rep S.was ((S.l ++ [a]).take k)) (S.l ++ [a])[k] ∧ (S.l ++ [a])[k].off ≤ 4294967296
  rcases Nat.lt_or_ge k S.l.length with hlt | hge
  ·obtain ⟨h1, h2, h3⟩ := h.all k (by omega)
   rw [List.take_append_of_le_length (by omega)]
   refine ⟨by omega, h2, fun hk2 => ?_⟩
   rw [List.getElem_append_left hlt]
   exact h3 hlt
  ·rcases Nat.eq_or_lt_of_le hge with e | hgt
   ·subst e
    rw [List.take_append_of_le_length (Nat.le_refl _), List.take_length, ← h.now]
    refine ⟨by have := h.last.1; omega, h.last.2, fun hk2 => ?_⟩
    rw [List.getElem_append_right (Nat.le_refl _)]
    simpa using ⟨hf, ho⟩
   ·have e : k = (S.l ++ [a]).length := by omega
    subst e
    rw [List.take_length, rep_append, ← h.now]
    refine ⟨?_, hu, fun hk2 => absurd hk2 (Nat.lt_irrefl _)⟩
    have h1 := does_len S.now a
    have h2 := h.last.1
    omega
theorem Inv.create {c : Nat} {S : Sv} (h : Inv c S) (n b : List UInt8) : Inv (c + 1) (create S n b).1 := by
 unfold Vf.create
 split
 ·exact h.mono (Nat.le_succ _)
 ·split
  ·exact h.mono (Nat.le_succ _)
  ·split
   ·exact h.mono (Nat.le_succ _)
   ·rename_i hr
    have hf : fits S.now ⟨1, n, 0, b⟩ := fun e => by cases e
    refine h.act hf (Nat.zero_le _) ?_
    have h1 := used_does S.now ⟨1, n, 0, b⟩ hf
    simp at h1
    omega
theorem Inv.write {c : Nat} {S : Sv} (h : Inv c S) (n : List UInt8) (t : Int) (b : List UInt8) : Inv (c + 1) (write S n t b).1 := by
 unfold Vf.write
 split
 ·exact h.mono (Nat.le_succ _)
 ·split
  ·exact h.mono (Nat.le_succ _)
  ·split
   ·exact h.mono (Nat.le_succ _)
   ·rename_i hx hr
    obtain ⟨k, hk, hkl⟩ := ix_at hx
    have hl : lenAt S.now n = (S.now[k].b).length := by unfold lenAt; rw [hk]; simp [hkl]
    have hm := used_mem (List.getElem_mem hkl)
    have h2 := h.last.2
    have h3 := h.room1
    have hf : fits S.now ⟨2, n, t.toNat, b⟩ := fun _ j hj e => by
     have e2 : (j : Int) = (k : Int) := e.trans hk
     obtain rfl : j = k := by omega
     show t.toNat + b.length ≤ _
     omega
    refine h.act hf (show t.toNat ≤ 4294967296 by omega) ?_
    have h1 := used_does S.now ⟨2, n, t.toNat, b⟩ hf
    simp at h1
    omega
theorem Inv.crash {c : Nat} {S : Sv} (h : Inv c S) (n m : Int) : Inv (c + 1) ⟨S.room, crash S n m, crash S n m, []⟩ := by
 rcases Nat.lt_or_ge n.toNat S.l.length with hlt | hge
 ·obtain ⟨h1, h2, h3⟩ := h.all n.toNat (by omega)
  by_cases h4 : S.l[n.toNat].kind = 2
  ·rw [crash_torn rfl hlt h4]
   refine Inv.plain h.room0 h.room1 ?_ ?_
   ·have := does_len (rep S.was (S.l.take n.toNat)) (cut S.l[n.toNat] m)
    omega
   ·have := used_does _ _ (fits_cut m (h3 hlt).1)
    have e : (cut S.l[n.toNat] m).kind = 2 := h4
    rw [e] at this
    simp at this
    omega
  ·rw [crash_clean rfl hlt h4]
   exact (Inv.plain h.room0 h.room1 h1 h2).mono (Nat.le_succ _)
 ·rw [crash_all hge, ← h.now]
  exact (Inv.plain h.room0 h.room1 h.last.1 h.last.2).mono (Nat.le_succ _)
end Vf
end
section
open Go.RowKit
open Me
namespace Vf
def bytesAt (l : List Fl) (n : List UInt8) : List UInt8 := (l.getD (ix l n).toNat ⟨[], []⟩).b
def read (l : List Fl) (n : List UInt8) (t m : Int) : List UInt8 × Int :=
 if is n = false then ([], 1) else if ix l n < 0 then ([], 5) else if t < 0 ∨ m < 0 ∨ ((bytesAt l n).length : Int) < t ∨ ((bytesAt l n).length : Int) - t < m then ([], 1) else (((bytesAt l n).drop t.toNat).take m.toNat, 0)
theorem read_one {l : List Fl} {n : List UInt8} {t m : Int} {k : Nat} (hi : is n = true) (hk : ix l n = (k : Int)) (hkl : k < l.length) (h : t < 0 ∨ m < 0 ∨ (((l[k].b).length : Nat) : Int) < t ∨ (((l[k].b).length : Nat) : Int) - t < m) : read l n t m = ([], 1) := by
 have hl : bytesAt l n = l[k].b := by unfold bytesAt; rw [hk]; simp [hkl]
 unfold read
 rw [if_neg (by simp [hi]), if_neg (by omega), if_pos (by rw [hl]; exact h)]
theorem read_done {l : List Fl} {n : List UInt8} {t m : Nat} {k : Nat} (hi : is n = true) (hk : ix l n = (k : Int)) (hkl : k < l.length) (h : t + m ≤ (l[k].b).length) : read l n (t : Int) (m : Int) = (((l[k].b).drop t).take m, 0) := by
 have hl : bytesAt l n = l[k].b := by unfold bytesAt; rw [hk]; simp [hkl]
 unfold read
 rw [if_neg (by simp [hi]), if_neg (by omega), if_neg (by rw [hl]; omega), hl]
 simp
def Handed (w : World) (R : List UInt8 × Int) (e : Ending) (w' : World) : Prop := ∃ v, e = .returned (.tuple #[v, .int .i64 R.2]) ∧ Bs w' (fun i => w.heap.size ≤ i) v R.1 ∧ Below w.heap.size w w'
theorem Handed.no {w : World} {R : List UInt8 × Int} {i : Int} (h : R = ([], i)) : Vf.Handed w R (.returned (.tuple #[.slice none 0 0, .int .i64 i])) w := by
 subst h
 exact ⟨_, rfl, ⟨none, 0, rfl, Nat.le_refl _, Nat.zero_le _, Rd.none_ _ _ _⟩, Below.refl _ _⟩
end Vf
theorem rd_cut {w : World} {G : Nat → Prop} {ad : Addr} {bb : List UInt8} {t m cc : Nat} (h : Rd w G (some ad) (by8 bb)) (hc : bb.length ≤ cc) (ht : t + m ≤ bb.length) : Rd w G (if cc = t then some ad else some (ad.add t)) (by8 ((bb.drop t).take m)) := by
 by_cases hm : m = 0
 ·subst hm
  rw [List.take_zero]
  exact Rd.none_ _ _ _
 ·rw [if_neg (by omega), ← by8_take, ← by8_drop]
  exact h.sub t m
theorem read_end {w w1 : World} {v1 : Value} {l : List UInt8} {m : Nat} {e : TypeId} (hl : l.length = m) (hown : w1.ownsRow w.heap.size e 1 v1 (0 + m) ([] ++ by8 l)) (hg : (w.alloc (.cells #[] e)).grownBy w1 (Value.slice (some ⟨w.heap.size, 0, none⟩) 0 0).ownBlock) :
 Vf.Handed w (l, 0) (.returned (.tuple #[v1, .int .i64 0])) w1 := by
 rw [Nat.zero_add, List.nil_append, ← hl] at hown
 exact ⟨v1, rfl, Bs.own hown, ((Below.refl _ _).alloc (Nat.le_refl _) _).grown hg (by simp) (fun g hg => by simp [Value.ownBlock] at hg; omega)⟩
theorem read_any {w : World} {G : Nat → Prop} {fs : Nat} {lr : Option Nat} {S : Vf.Sv} {nv wv lv : Value} {ys : List Value} (h : Vf.At w G fs lr S nv wv lv ys) (n : List UInt8) (t m : Int)
 (hl : S.now.length ≤ 1048576) (hu : Vf.used S.now ≤ 4294967296) :
 Calls Tryz.prog 13 #[.pointer (some ⟨fs, 0, none⟩), .string ⟨n.toArray⟩, .int .i64 t, .int .i64 m] w (Vf.Handed w (Vf.read S.now n t m)) := by
 obtain ⟨j0, hj0, hy0, hy1, hy2⟩ := info_parts u8info
 have HJ := Lib.hid hj0
 have HY := Lib.hid (And.intro hy0 (And.intro hy1 hy2))
 clear hj0 hy0 hy1 hy2
 obtain ⟨c0, c1, c2, c3, hf⟩ := h.cells
 have hfl := h.fsLt
 have HFD := Lib.hid (find_any S.now n nv G w h.now hl)
 have HIS := Lib.hid (is_any n w)
 obtain ⟨i1, i2⟩ := Vf.ix_bd S.now n
 cases hi : Vf.is n
 ·rw [hi] at HIS
  have HR : Hid (Vf.read S.now n t m = ([], 1)) := Lib.hid (by unfold Vf.read; rw [if_pos hi])
  obtain ⟨A0, c00, xs0, hnv, _⟩ := h.now
  subst hnv
  clear h hf
  generalize Vf.ix S.now n = i at *
  go_enter Tryz.func13, Tryz.ntmps13
  go_wp2_with (first | (go_at_call 36; ((with_reducible refine (HIS.out).mono ?_); rintro e w' ⟨rfl, rfl⟩)) | (go_at_call 35; ((with_reducible refine (HFD.out).mono ?_); rintro e w' ⟨rfl, rfl⟩)))
  ((try simp only [Exit.inBlock, Exit.then]); refine bodyPost_ret (results_tmp2 rfl _ _ _) rfl ?_)
  exact Vf.Handed.no HR.out
 ·rw [hi] at HIS
  by_cases hx : Vf.ix S.now n < 0
  ·have HR : Hid (Vf.read S.now n t m = ([], 5)) := Lib.hid (by unfold Vf.read; rw [if_neg (by simp [hi]), if_pos hx])
   obtain ⟨A0, c00, xs0, hnv, _⟩ := h.now
   subst hnv
   clear h hf
   generalize Vf.ix S.now n = i at *
   go_enter Tryz.func13, Tryz.ntmps13
   go_wp2_with (first | (go_at_call 36; ((with_reducible refine (HIS.out).mono ?_); rintro e w' ⟨rfl, rfl⟩)) | (go_at_call 35; ((with_reducible refine (HFD.out).mono ?_); rintro e w' ⟨rfl, rfl⟩)))
   ((try simp only [Exit.inBlock, Exit.then]); refine bodyPost_ret (results_tmp2 rfl _ _ _) rfl ?_)
   exact Vf.Handed.no HR.out
  ·obtain ⟨k, hk, hkl⟩ := Vf.ix_at hx
   have HM := Lib.hid (Vf.used_mem (List.getElem_mem hkl))
   have hlk : (S.now[k].b).length ≤ 4294967296 := Nat.le_trans HM.out hu
   have HW1 : Hid (∀ t m : Int, t < 0 ∨ m < 0 ∨ (((S.now[k].b).length : Nat) : Int) < t ∨ (((S.now[k].b).length : Nat) : Int) - t < m → Vf.read S.now n t m = ([], 1)) := Lib.hid fun t m hb => Vf.read_one hi hk hkl hb
   have HW2 : Hid (∀ t m : Nat, t + m ≤ (S.now[k].b).length → Vf.read S.now n (t : Int) (m : Int) = (((S.now[k].b).drop t).take m, 0)) := Lib.hid fun t m hb => Vf.read_done hi hk hkl hb
   obtain ⟨rb, ro, c, A2, cc, rfl, hc, hcm, g0, g1, hbs, hrb, _⟩ := h.now.nth k hkl
   obtain ⟨A3, c3', he, hc2, hcm2, hrd2⟩ := hbs
   injection he with he1 he2 he3
   subst he1 he3
   have HRD := Lib.hid hrd2
   unfold maxLen at hcm hcm2
   rw [hk] at HFD
   clear h hf hx hk i1 i2 HM hrd2
   generalize Vf.read S.now n = rr at *
   generalize S.now[k].b = bb at *
   by_cases ht : t < 0
   ·have HR := Lib.hid (HW1.out t m (.inl ht))
    clear HW1 HW2
    go_enter Tryz.func13, Tryz.ntmps13
    go_wp2_with (first | (go_at_call 36; ((with_reducible refine (HIS.out).mono ?_); rintro e w' ⟨rfl, rfl⟩)) | (go_at_call 35; ((with_reducible refine (HFD.out).mono ?_); rintro e w' ⟨rfl, rfl⟩)))
    ((try simp only [Exit.inBlock, Exit.then]); refine bodyPost_ret (results_tmp2 rfl _ _ _) rfl ?_)
    exact Vf.Handed.no HR.out
   ·obtain ⟨t, rfl⟩ : ∃ t' : Nat, t = (t' : Int) := ⟨t.toNat, by omega⟩
    clear ht
    by_cases hm : m < 0
    ·have HR := Lib.hid (HW1.out t m (.inr (.inl hm)))
     clear HW1 HW2
     go_enter Tryz.func13, Tryz.ntmps13
     go_wp2_with (first | (go_at_call 36; ((with_reducible refine (HIS.out).mono ?_); rintro e w' ⟨rfl, rfl⟩)) | (go_at_call 35; ((with_reducible refine (HFD.out).mono ?_); rintro e w' ⟨rfl, rfl⟩)))
     ((try simp only [Exit.inBlock, Exit.then]); refine bodyPost_ret (results_tmp2 rfl _ _ _) rfl ?_)
     exact Vf.Handed.no HR.out
    ·obtain ⟨m, rfl⟩ : ∃ m' : Nat, m = (m' : Int) := ⟨m.toNat, by omega⟩
     clear hm
     by_cases h1 : (bb.length : Int) < (t : Int)
     ·have HR := Lib.hid (HW1.out t m (.inr (.inr (.inl h1))))
      clear HW1 HW2
      go_enter Tryz.func13, Tryz.ntmps13
      go_wp2_with (first | (go_at_call 36; ((with_reducible refine (HIS.out).mono ?_); rintro e w' ⟨rfl, rfl⟩)) | (go_at_call 35; ((with_reducible refine (HFD.out).mono ?_); rintro e w' ⟨rfl, rfl⟩)))
      ((try simp only [Exit.inBlock, Exit.then]); refine bodyPost_ret (results_tmp2 rfl _ _ _) rfl ?_)
      exact Vf.Handed.no HR.out
     ·have hwr : IntKind.i64.wrap ((bb.length : Int) - (t : Int)) = (bb.length : Int) - (t : Int) := IntWalk.i64_in _ (by omega)
      by_cases h2 : (bb.length : Int) - (t : Int) < (m : Int)
      ·have HR := Lib.hid (HW1.out t m (.inr (.inr (.inr h2))))
       clear HW1 HW2
       go_enter Tryz.func13, Tryz.ntmps13
       go_wp2_with (first | (go_at_call 36; ((with_reducible refine (HIS.out).mono ?_); rintro e w' ⟨rfl, rfl⟩)) | (go_at_call 35; ((with_reducible refine (HFD.out).mono ?_); rintro e w' ⟨rfl, rfl⟩)))
       ((try simp only [Exit.inBlock, Exit.then]); refine bodyPost_ret (results_tmp2 rfl _ _ _) rfl ?_)
       exact Vf.Handed.no HR.out
      ·have HR := Lib.hid (HW2.out t m (by omega))
       clear HW1 HW2
       have hw2 : IntKind.i64.wrap ((t : Int) + (m : Int)) = ((t + m : Nat) : Int) := by rw [IntWalk.i64_in _ (by omega)]; omega
       have hnl : ((bb.drop t).take m).length = m := by rw [List.length_take, List.length_drop]; omega
       cases A2 with
       | none =>
         have hr0 : Rd (w.alloc (.cells #[] 5)) G none (by8 ((bb.drop t).take m)) := by
          intro hne
          obtain ⟨ad, e, _⟩ := HRD.out (by rintro e; apply hne; rw [← by8_take, ← by8_drop, e]; simp)
          cases e
         have HR0 := Lib.hid hr0
         go_enter Tryz.func13, Tryz.ntmps13
         go_wp2_with (first | (go_at_call 36; ((with_reducible refine (HIS.out).mono ?_); rintro e w' ⟨rfl, rfl⟩)) | (go_at_call 35; ((with_reducible refine (HFD.out).mono ?_); rintro e w' ⟨rfl, rfl⟩)) | (at_builtin; refine wpList_app _ rfl (.tmp 59) (.tmp 72) 45 rfl w.heap.size 5 j0 (.int .u8 0) 1 1 Tryz.underlying45 HJ.out HY.out.1 HY.out.2.1 HY.out.2.2 rfl (by decide) (.slice (some ⟨w.heap.size, 0, none⟩) 0 0) 0 [] rfl (owns_empty _ _ _ rfl) G none m (cc - t) (by8 ((bb.drop t).take m)) (by simp [Act.eval]) (by rw [by8_len]; omega) HR0.out (by8_one _) (by unfold maxLen; omega) (by omega) (by simp) ?_; intro v1 w1 hown1 hg1 hat1 hnil1))
         all_goals
          ((try simp only [Exit.inBlock, Exit.then]); refine bodyPost_ret (results_tmp2 rfl _ _ _) rfl ?_)
          rw [HR.out]
          exact read_end hnl hown1 hg1
       | some ad =>
         have HR0 := Lib.hid (rd_cut (w := w.alloc (.cells #[] 5)) (t := t) (m := m) (cc := cc) (HRD.out.keep (by simp) (fun b hb _ => Below.heap_alloc w _ b hb)) hc2 (by omega))
         go_enter Tryz.func13, Tryz.ntmps13
         go_wp2_with (first | (go_at_call 36; ((with_reducible refine (HIS.out).mono ?_); rintro e w' ⟨rfl, rfl⟩)) | (go_at_call 35; ((with_reducible refine (HFD.out).mono ?_); rintro e w' ⟨rfl, rfl⟩)) | (at_builtin; refine wpList_app _ rfl (.tmp 59) (.tmp 72) 45 rfl w.heap.size 5 j0 (.int .u8 0) 1 1 Tryz.underlying45 HJ.out HY.out.1 HY.out.2.1 HY.out.2.2 rfl (by decide) (.slice (some ⟨w.heap.size, 0, none⟩) 0 0) 0 [] rfl (owns_empty _ _ _ rfl) G (if cc = t then some ad else some (ad.add t)) m (cc - t) (by8 ((bb.drop t).take m)) (by simp [Act.eval]) (by rw [by8_len]; omega) HR0.out (by8_one _) (by unfold maxLen; omega) (by omega) (by simp) ?_; intro v1 w1 hown1 hg1 hat1 hnil1))
         all_goals
          ((try simp only [Exit.inBlock, Exit.then]); refine bodyPost_ret (results_tmp2 rfl _ _ _) rfl ?_)
          rw [HR.out]
          exact read_end hnl hown1 hg1
end
section
namespace Fx
structure Vl where
 ok : Bool
 n : Int
def inR (n : Int) : Bool := decide (-4611686018427387904 ≤ n ∧ n ≤ 4611686018427387904)
def none : Vl := ⟨false, 0⟩
def of (n : Int) : Vl := if inR n then ⟨true, n⟩ else none
def num (v : Vl) : Bool := v.ok && inR v.n
def isV (v : Vl) : Bool := if v.ok then inR v.n else decide (v.n = 0)
def plus (a b : Vl) : Vl := if num a && num b then of (a.n + b.n) else none
def sub (a b : Vl) : Vl := if num a && num b then of (a.n - b.n) else none
def less (a b : Vl) : Bool := (num a && num b) && decide (a.n < b.n)
theorem inR_yes {n : Int} (h1 : -4611686018427387904 ≤ n) (h2 : n ≤ 4611686018427387904) : inR n = true := by unfold inR; simp; omega
theorem inR_low {n : Int} (h : n < -4611686018427387904) : inR n = false := by unfold inR; simp; omega
theorem inR_high {n : Int} (h : 4611686018427387904 < n) : inR n = false := by unfold inR; simp; omega
theorem inR_iff {n : Int} : inR n = true ↔ -4611686018427387904 ≤ n ∧ n ≤ 4611686018427387904 := by unfold inR; simp
theorem of_yes {n : Int} (h : inR n = true) : of n = ⟨true, n⟩ := by unfold of; rw [if_pos h]
theorem of_no {n : Int} (h : inR n = false) : of n = none := by unfold of; rw [if_neg (by simp [h])]
theorem num_iff {b : Bool} {n : Int} : num ⟨b, n⟩ = true ↔ b = true ∧ -4611686018427387904 ≤ n ∧ n ≤ 4611686018427387904 := by
 unfold num; simp [inR_iff]
theorem isV_on {n : Int} : isV ⟨true, n⟩ = inR n := rfl
theorem isV_off {n : Int} : isV ⟨false, n⟩ = decide (n = 0) := rfl
theorem plus_yes {a b : Vl} (h1 : num a = true) (h2 : num b = true) : plus a b = of (a.n + b.n) := by unfold plus; simp [h1, h2]
theorem plus_no1 {a b : Vl} (h1 : num a = false) : plus a b = none := by unfold plus; simp [h1]
theorem plus_no2 {a b : Vl} (h2 : num b = false) : plus a b = none := by unfold plus; simp [h2]
theorem of_wrap {n : Int} (h1 : -9223372036854775808 ≤ n) (h2 : n ≤ 9223372036854775808) : of (Go.RowKit.wrap64 n) = of n := by
 unfold Go.RowKit.wrap64
 by_cases h : n = 9223372036854775808
 ·subst h; rw [of_no (n := 9223372036854775808) (inR_high (by omega))]; exact of_no (inR_low (by omega))
 ·congr 1; omega
def mag (n : Int) : Nat := n.natAbs
end Fx
end
section
open Go.RowKit
open Fx (Vl)
theorem bcell {W w1 : World} (hb : Below W.heap.size W w1) : (∀ b o, b < W.heap.size → w1.cell? ⟨b, o, none⟩ = W.cell? ⟨b, o, none⟩) ∧ (∀ b o, b < W.heap.size → w1.frozen? ⟨b, o, none⟩ = W.frozen? ⟨b, o, none⟩) :=
 ⟨fun b o h => hb.cell (p := ⟨b, o, none⟩) h, fun b o h => hb.frozen (p := ⟨b, o, none⟩) h⟩
theorem kgrown (W : World) : (∀ d os b o, b < W.heap.size → (Go.Sort.grow (redrawn W d) os).cell? ⟨b, o, none⟩ = W.cell? ⟨b, o, none⟩) ∧ (∀ d os b o, b < W.heap.size → (Go.Sort.grow (redrawn W d) os).frozen? ⟨b, o, none⟩ = W.frozen? ⟨b, o, none⟩) :=
 ⟨fun d os b o h => (below_regrown W d os).cell (p := ⟨b, o, none⟩) h, fun d os b o h => (below_regrown W d os).frozen (p := ⟨b, o, none⟩) h⟩
theorem inRange_any (n : Int) (w : World) :
 Calls Tryz.prog 100 #[.int .i64 n] w fun e w' => e = .returned (.bool (Fx.inR n)) ∧ w = w' := by
 by_cases h1 : -4611686018427387904 ≤ n
 ·by_cases h2 : n ≤ 4611686018427387904
  ·have H := Lib.hid (Fx.inR_yes h1 h2)
   go_enter Tryz.func100, Tryz.ntmps100
   go_wp2
   go_ret
   exact ⟨by rw [H.out]; rfl, rfl⟩
  ·have H := Lib.hid (Fx.inR_high (by omega : 4611686018427387904 < n))
   go_enter Tryz.func100, Tryz.ntmps100
   go_wp2
   go_ret
   exact ⟨by rw [H.out]; rfl, rfl⟩
 ·have H := Lib.hid (Fx.inR_low (by omega : n < -4611686018427387904))
  go_enter Tryz.func100, Tryz.ntmps100
  go_wp2
  go_ret
  exact ⟨by rw [H.out]; rfl, rfl⟩
theorem of_any (n : Int) (w : World) :
 Calls Tryz.prog 72 #[.int .i64 n] w fun e w' => e = .returned (.agg #[.bool (Fx.of n).ok, .int .i64 (Fx.of n).n]) ∧ Below w.heap.size w w' := by
 cases h : Fx.inR n
 ·rw [Fx.of_no h]
  go_enter Tryz.func72, Tryz.ntmps72
  go_wp2_with (go_at_call 100; go_must (refine (inRange_any _ _).mono ?_; rintro e w' ⟨rfl, rfl⟩))
  exact bodyPost_ret (v := .agg #[.bool false, .int .i64 0]) (by simp [results, Tryz.results72, go_sem, *]) rfl ⟨rfl, Bq⟩
 ·rw [Fx.of_yes h]
  go_enter Tryz.func72, Tryz.ntmps72
  go_wp2_with (go_at_call 100; go_must (refine (inRange_any _ _).mono ?_; rintro e w' ⟨rfl, rfl⟩))
  exact bodyPost_ret (v := .agg #[.bool true, .int .i64 n]) (by simp [results, Tryz.results72, go_sem, *]) rfl ⟨rfl, Bq⟩
theorem refOf_any (n : Int) (w : World) :
 Calls Tryz.prog 111 #[.int .i64 n] w fun e w' => e = .returned (.agg #[.bool (Fx.of n).ok, .int .i64 (Fx.of n).n]) ∧ Below w.heap.size w w' := by
 by_cases h1 : -4611686018427387904 ≤ n
 ·by_cases h2 : n ≤ 4611686018427387904
  ·rw [Fx.of_yes (Fx.inR_yes h1 h2)]
   go_enter Tryz.func111, Tryz.ntmps111
   go_wp2
   exact bodyPost_ret (v := .agg #[.bool true, .int .i64 n]) (by simp [results, Tryz.results111, go_sem, *]) rfl ⟨rfl, Bq⟩
  ·rw [Fx.of_no (Fx.inR_high (by omega : 4611686018427387904 < n))]
   go_enter Tryz.func111, Tryz.ntmps111
   go_wp2
   exact bodyPost_ret (v := .agg #[.bool false, .int .i64 0]) (by simp [results, Tryz.results111, go_sem, *]) rfl ⟨rfl, Bq⟩
 ·rw [Fx.of_no (Fx.inR_low (by omega : n < -4611686018427387904))]
  go_enter Tryz.func111, Tryz.ntmps111
  go_wp2
  exact bodyPost_ret (v := .agg #[.bool false, .int .i64 0]) (by simp [results, Tryz.results111, go_sem, *]) rfl ⟨rfl, Bq⟩
theorem int_any (n : Int) (w : World) :
 Calls Tryz.prog 138 #[.int .i64 n] w fun e w' => e = .returned (.agg #[.bool (Fx.of (n * 1000000)).ok, .int .i64 (Fx.of (n * 1000000)).n]) ∧ Below w.heap.size w w' := by
 by_cases h1 : -4611686018427 ≤ n
 ·by_cases h2 : n ≤ 4611686018427
  ·go_enter Tryz.func138, Tryz.ntmps138
   go_wp2_with (go_at_call 72; go_must (refine (of_any _ _).mono ?_; rintro e w' ⟨rfl, hb⟩; obtain ⟨hc, hf⟩ := bcell hb; (try have hz0 : w.heap.size < w'.heap.size := Bz hb); (try have hz1 : w.heap.size + 1 < w'.heap.size := Bz hb); (try have hz2 : w.heap.size + 1 + 1 < w'.heap.size := Bz hb); have hz := hb.size; (try simp at hz)))
   exact bodyPost_ret (v := (.agg #[.bool (Fx.of (n * 1000000)).ok, .int .i64 (Fx.of (n * 1000000)).n])) (by simp [results, Tryz.results138, go_sem, *]) rfl ⟨rfl, Bq⟩
  ·rw [Fx.of_no (Fx.inR_high (by omega : 4611686018427387904 < n * 1000000))]
   go_enter Tryz.func138, Tryz.ntmps138
   go_wp2
   exact bodyPost_ret (v := .agg #[.bool false, .int .i64 0]) (by simp [results, Tryz.results138, go_sem, *]) rfl ⟨rfl, Bq⟩
 ·rw [Fx.of_no (Fx.inR_low (by omega : n * 1000000 < -4611686018427387904))]
  go_enter Tryz.func138, Tryz.ntmps138
  go_wp2
  exact bodyPost_ret (v := .agg #[.bool false, .int .i64 0]) (by simp [results, Tryz.results138, go_sem, *]) rfl ⟨rfl, Bq⟩
theorem refInt_any (n : Int) (w : World) :
 Calls Tryz.prog 133 #[.int .i64 n] w fun e w' => e = .returned (.agg #[.bool (Fx.of (n * 1000000)).ok, .int .i64 (Fx.of (n * 1000000)).n]) ∧ Below w.heap.size w w' := by
 by_cases h1 : -4611686018427 ≤ n
 ·by_cases h2 : n ≤ 4611686018427
  ·go_enter Tryz.func133, Tryz.ntmps133
   go_wp2_with (go_at_call 111; go_must (refine (refOf_any _ _).mono ?_; rintro e w' ⟨rfl, hb⟩; obtain ⟨hc, hf⟩ := bcell hb; (try have hz0 : w.heap.size < w'.heap.size := Bz hb); (try have hz1 : w.heap.size + 1 < w'.heap.size := Bz hb); (try have hz2 : w.heap.size + 1 + 1 < w'.heap.size := Bz hb); have hz := hb.size; (try simp at hz)))
   exact bodyPost_ret (v := (.agg #[.bool (Fx.of (n * 1000000)).ok, .int .i64 (Fx.of (n * 1000000)).n])) (by simp [results, Tryz.results133, go_sem, *]) rfl ⟨rfl, Bq⟩
  ·rw [Fx.of_no (Fx.inR_high (by omega : 4611686018427387904 < n * 1000000))]
   go_enter Tryz.func133, Tryz.ntmps133
   go_wp2
   exact bodyPost_ret (v := .agg #[.bool false, .int .i64 0]) (by simp [results, Tryz.results133, go_sem, *]) rfl ⟨rfl, Bq⟩
 ·rw [Fx.of_no (Fx.inR_low (by omega : n * 1000000 < -4611686018427387904))]
  go_enter Tryz.func133, Tryz.ntmps133
  go_wp2
  exact bodyPost_ret (v := .agg #[.bool false, .int .i64 0]) (by simp [results, Tryz.results133, go_sem, *]) rfl ⟨rfl, Bq⟩
theorem isV_any (b : Bool) (n : Int) (w : World) :
 Calls Tryz.prog 134 #[.agg #[.bool b, .int .i64 n]] w fun e w' => e = .returned (.bool (Fx.isV ⟨b, n⟩)) ∧ Below w.heap.size w w' := by
 cases b
 ·rw [Fx.isV_off]
  go_enter Tryz.func134, Tryz.ntmps134
  go_wp2
  go_ret
  exact ⟨by first | rfl | simp, Bq⟩
 ·rw [Fx.isV_on]
  go_enter Tryz.func134, Tryz.ntmps134
  go_wp2_with (go_at_call 100; go_must (refine (inRange_any _ _).mono ?_; rintro e w' ⟨rfl, rfl⟩))
  go_ret
  exact ⟨rfl, Bq⟩
theorem refIsV_any (b : Bool) (n : Int) (w : World) :
 Calls Tryz.prog 53 #[.agg #[.bool b, .int .i64 n]] w fun e w' => e = .returned (.bool (Fx.isV ⟨b, n⟩)) ∧ Below w.heap.size w w' := by
 cases b
 ·rw [Fx.isV_off]
  go_enter Tryz.func53, Tryz.ntmps53
  go_wp2
  go_ret
  exact ⟨by first | rfl | simp, Bq⟩
 ·rw [Fx.isV_on]
  by_cases h1 : -4611686018427387904 ≤ n
  ·by_cases h2 : n ≤ 4611686018427387904
   ·have H := Lib.hid (Fx.inR_yes h1 h2)
    go_enter Tryz.func53, Tryz.ntmps53
    go_wp2
    go_ret
    exact ⟨by rw [H.out]; rfl, Bq⟩
   ·have H := Lib.hid (Fx.inR_high (by omega : 4611686018427387904 < n))
    go_enter Tryz.func53, Tryz.ntmps53
    go_wp2
    go_ret
    exact ⟨by rw [H.out]; rfl, Bq⟩
  ·have H := Lib.hid (Fx.inR_low (by omega : n < -4611686018427387904))
   go_enter Tryz.func53, Tryz.ntmps53
   go_wp2
   go_ret
   exact ⟨by rw [H.out]; rfl, Bq⟩
theorem isNumber_any (b : Bool) (n : Int) (w : World) :
 Calls Tryz.prog 145 #[.agg #[.bool b, .int .i64 n]] w fun e w' => e = .returned (.bool (Fx.num ⟨b, n⟩)) ∧ Below w.heap.size w w' := by
 cases b
 ·go_enter Tryz.func145, Tryz.ntmps145
  go_wp2
  go_ret
  exact ⟨rfl, Bq⟩
 ·go_enter Tryz.func145, Tryz.ntmps145
  go_wp2_with (go_at_call 100; go_must (refine (inRange_any _ _).mono ?_; rintro e w' ⟨rfl, rfl⟩))
  go_ret
  exact ⟨rfl, Bq⟩
theorem known1_any (b : Bool) (n : Int) (w : World) :
 Calls Tryz.prog 130 #[.agg #[.bool b, .int .i64 n]] w fun e w' => e = .returned (.bool (Fx.num ⟨b, n⟩)) ∧ Below w.heap.size w w' := by
 cases b
 ·go_enter Tryz.func130, Tryz.ntmps130
  go_wp2
  go_ret
  exact ⟨rfl, Bq⟩
 ·go_enter Tryz.func130, Tryz.ntmps130
  go_wp2_with (go_at_call 53; go_must (refine (refIsV_any _ _ _).mono ?_; rintro e w' ⟨rfl, hb⟩; obtain ⟨hc, hf⟩ := bcell hb; (try have hz0 : w.heap.size < w'.heap.size := Bz hb); (try have hz1 : w.heap.size + 1 < w'.heap.size := Bz hb); (try have hz2 : w.heap.size + 1 + 1 < w'.heap.size := Bz hb); have hz := hb.size; (try simp at hz)))
  go_ret
  exact ⟨rfl, Bq⟩
theorem two_any (a : Bool) (m : Int) (b : Bool) (n : Int) (w : World) :
 Calls Tryz.prog 143 #[.agg #[.bool a, .int .i64 m], .agg #[.bool b, .int .i64 n]] w fun e w' => e = .returned (.bool (Fx.num ⟨a, m⟩ && Fx.num ⟨b, n⟩)) ∧ Below w.heap.size w w' := by
 cases h : Fx.num ⟨a, m⟩
 ·go_enter Tryz.func143, Tryz.ntmps143
  go_wp2_with (go_at_call 130; go_must (refine (known1_any _ _ _).mono ?_; rintro e w' ⟨rfl, hb⟩; obtain ⟨hc, hf⟩ := bcell hb; (try have hz0 : w.heap.size < w'.heap.size := Bz hb); (try have hz1 : w.heap.size + 1 < w'.heap.size := Bz hb); (try have hz2 : w.heap.size + 1 + 1 < w'.heap.size := Bz hb); have hz := hb.size; (try simp at hz)))
  go_ret
  exact ⟨rfl, Bq⟩
 ·go_enter Tryz.func143, Tryz.ntmps143
  go_wp2_with (go_at_call 130; go_must (refine (known1_any _ _ _).mono ?_; rintro e w' ⟨rfl, hb⟩; obtain ⟨hc, hf⟩ := bcell hb; (try have hz0 : w.heap.size < w'.heap.size := Bz hb); (try have hz1 : w.heap.size + 1 < w'.heap.size := Bz hb); (try have hz2 : w.heap.size + 1 + 1 < w'.heap.size := Bz hb); have hz := hb.size; (try simp at hz)))
  go_ret
  exact ⟨rfl, Bq⟩
end
end Go.Proofs.YtljlanhpjpjgaaaGreatDoor
