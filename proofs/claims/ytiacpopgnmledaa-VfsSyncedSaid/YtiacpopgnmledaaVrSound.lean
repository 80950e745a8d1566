/-
  THE PLAIN MATHEMATICS of files: what holds of the document's own files whatever is played.
-/
import Derived.Test.YtiacpopgnmledaaVrWrite
import Derived.Test.YtiacpopgnmledaaVrCrash
namespace Go.Proofs.Ytiacpopgnmledaa
namespace Vf

theorem used_append (l m : List Fl) : used (l ++ m) = used l + used m := by unfold used; rw [List.map_append, List.sum_append]
theorem used_cons (f : Fl) (l : List Fl) : used (f :: l) = f.b.length + used l := by unfold used; rw [List.map_cons, List.sum_cons]
theorem used_one (a : Ac) (i : Int) (k : Nat) (x : Fl) (h : (k : Int) = i → a.kind = 2 → a.off + a.p.length ≤ x.b.length) : used (one a i k x) ≤ x.b.length := by
  unfold one
  split
  · rename_i hc
    rw [used_cons]
    show (upd x.b a.off a.p).length + used [] ≤ _
    rw [upd_len (h hc.1 hc.2)]
    simp [used]
  · split
    · simp [used]
    · simp [used]
theorem used_goes (a : Ac) (i : Int) : ∀ (l : List Fl) (k : Nat), (∀ (j : Nat) (hj : j < l.length), ((k + j : Nat) : Int) = i → a.kind = 2 → a.off + a.p.length ≤ l[j].b.length) → used (goes a i k l) ≤ used l
  | [], _, _ => by simp [goes]
  | x :: r, k, h => by
    rw [goes, used_append, used_cons]
    have h1 := used_one a i k x (fun e e2 => by have := h 0 (by simp) (by simpa using e) e2; simpa using this)
    have h2 := used_goes a i r (k + 1) (fun j hj e e2 => by
      have := h (j + 1) (by simpa using hj) (by rw [← e]; congr 1; omega) e2
      simpa using this)
    omega
theorem used_does (l : List Fl) (a : Ac) (h : fits l a) : used (does l a) ≤ used l + (if a.kind = 1 then a.p.length else 0) := by
  unfold does
  rw [used_append]
  have h1 := used_goes a (ix l a.name) l 0 (fun j hj e e2 => h e2 j hj (by simpa using e))
  split
  · rw [used_cons]
    simp [used] at h1 ⊢
    omega
  · simp [used] at h1 ⊢
    omega
/-- What holds of the document's own files when c acts were played. -/
structure Inv (c : Nat) (S : Sv) : Prop where
  room0 : 0 ≤ S.room
  room1 : S.room ≤ 1073741824
  now : S.now = rep S.was S.l
  len : S.l.length ≤ c
  all : ∀ k, k ≤ S.l.length → (rep S.was (S.l.take k)).length ≤ c ∧ (used (rep S.was (S.l.take k)) : Int) ≤ S.room ∧ ∀ h : k < S.l.length, fits (rep S.was (S.l.take k)) S.l[k] ∧ S.l[k].off ≤ 4294967296
theorem Inv.last {c : Nat} {S : Sv} (h : Inv c S) : S.now.length ≤ c ∧ (used S.now : Int) ≤ S.room := by
  have := h.all S.l.length (Nat.le_refl _)
  rw [List.take_length, ← h.now] at this
  exact ⟨this.1, this.2.1⟩
theorem Inv.new {room : Int} (h0 : 0 ≤ room) (h1 : room ≤ 1073741824) : Inv 0 ⟨room, [], [], []⟩ := by
  refine ⟨h0, h1, rfl, Nat.le_refl _, fun k hk => ?_⟩
  have hk0 : k = 0 := Nat.le_zero.1 hk
  subst hk0
  exact ⟨Nat.le_refl _, by simpa [rep, used] using h0, fun h => absurd h (Nat.lt_irrefl _)⟩
theorem Inv.mono {c d : Nat} {S : Sv} (h : Inv c S) (hd : c ≤ d) : Inv d S := ⟨h.room0, h.room1, h.now, Nat.le_trans h.len hd, fun k hk => ⟨Nat.le_trans (h.all k hk).1 hd, (h.all k hk).2⟩⟩
theorem Inv.plain {c : Nat} {room : Int} {r : List Fl} (h0 : 0 ≤ room) (h1 : room ≤ 1073741824) (hl : r.length ≤ c) (hu : (used r : Int) ≤ room) : Inv c ⟨room, r, r, []⟩ := by
  refine ⟨h0, h1, rfl, Nat.zero_le _, fun k hk => ?_⟩
  have hk0 : k = 0 := Nat.le_zero.1 hk
  subst hk0
  exact ⟨hl, hu, fun h => absurd h (Nat.lt_irrefl _)⟩
theorem Inv.sync {c : Nat} {S : Sv} (h : Inv c S) : Inv c { S with was := S.now, l := [] } := Inv.plain h.room0 h.room1 h.last.1 h.last.2
theorem rep_append (was : List Fl) (l : List Ac) (a : Ac) : rep was (l ++ [a]) = does (rep was l) a := by unfold rep; rw [List.foldl_append]; rfl
theorem Inv.act {c : Nat} {S : Sv} {a : Ac} (h : Inv c S) (hf : fits S.now a) (ho : a.off ≤ 4294967296) (hu : (used (does S.now a) : Int) ≤ S.room) : Inv (c + 1) (S.act a) := by
  have hlen : (S.l ++ [a]).length = S.l.length + 1 := by simp
  refine ⟨h.room0, h.room1, ?_, ?_, fun k hk => ?_⟩
  · show does S.now a = rep S.was (S.l ++ [a])
    rw [rep_append, ← h.now]
  · show (S.l ++ [a]).length ≤ c + 1
    have := h.len
    omega
  · have hk : k ≤ (S.l ++ [a]).length := hk
    show (rep S.was ((S.l ++ [a]).take k)).length ≤ c + 1 ∧ (used (rep S.was ((S.l ++ [a]).take k)) : Int) ≤ S.room ∧ ∀ h : k < (S.l ++ [a]).length, fits (rep S.was ((S.l ++ [a]).take k)) (S.l ++ [a])[k] ∧ (S.l ++ [a])[k].off ≤ 4294967296
    rcases Nat.lt_or_ge k S.l.length with hlt | hge
    · obtain ⟨h1, h2, h3⟩ := h.all k (by omega)
      rw [List.take_append_of_le_length (by omega)]
      refine ⟨by omega, h2, fun hk2 => ?_⟩
      rw [List.getElem_append_left hlt]
      exact h3 hlt
    · rcases Nat.eq_or_lt_of_le hge with e | hgt
      · subst e
        rw [List.take_append_of_le_length (Nat.le_refl _), List.take_length, ← h.now]
        refine ⟨by have := h.last.1; omega, h.last.2, fun hk2 => ?_⟩
        rw [List.getElem_append_right (Nat.le_refl _)]
        simpa using ⟨hf, ho⟩
      · have e : k = (S.l ++ [a]).length := by omega
        subst e
        rw [List.take_length, rep_append, ← h.now]
        refine ⟨?_, hu, fun hk2 => absurd hk2 (Nat.lt_irrefl _)⟩
        have h1 := does_len S.now a
        have h2 := h.last.1
        omega
theorem Inv.sound {c : Nat} {S : Sv} (h : Inv c S) (hc : c ≤ 1048576) : Sound S := fun k hk => by
  obtain ⟨h1, h2, h3⟩ := h.all k hk
  refine ⟨by omega, fun f hf => ?_, h3⟩
  have := used_mem hf
  have := h.room1
  omega
theorem Inv.create {c : Nat} {S : Sv} (h : Inv c S) (n b : List UInt8) : Inv (c + 1) (create S n b).1 := by
  unfold Vf.create
  split
  · exact h.mono (Nat.le_succ _)
  · split
    · exact h.mono (Nat.le_succ _)
    · split
      · exact h.mono (Nat.le_succ _)
      · rename_i hr
        have hf : fits S.now ⟨1, n, 0, b⟩ := fun e => by cases e
        refine h.act hf (Nat.zero_le _) ?_
        have h1 := used_does S.now ⟨1, n, 0, b⟩ hf
        simp at h1
        omega
theorem Inv.remove {c : Nat} {S : Sv} (h : Inv c S) (n : List UInt8) : Inv (c + 1) (remove S n).1 := by
  unfold Vf.remove
  split
  · exact h.mono (Nat.le_succ _)
  · split
    · exact h.mono (Nat.le_succ _)
    · have hf : fits S.now ⟨3, n, 0, []⟩ := fun e => by cases e
      refine h.act hf (Nat.zero_le _) ?_
      have h1 := used_does S.now ⟨3, n, 0, []⟩ hf
      have h2 := h.last.2
      simp at h1
      omega
theorem Inv.write {c : Nat} {S : Sv} (h : Inv c S) (n : List UInt8) (t : Int) (b : List UInt8) : Inv (c + 1) (write S n t b).1 := by
  unfold Vf.write
  split
  · exact h.mono (Nat.le_succ _)
  · split
    · exact h.mono (Nat.le_succ _)
    · split
      · exact h.mono (Nat.le_succ _)
      · rename_i hx hr
        obtain ⟨k, hk, hkl⟩ := ix_at hx
        have hl : lenAt S.now n = (S.now[k].b).length := by unfold lenAt; rw [hk]; simp [hkl]
        have hm := used_mem (List.getElem_mem hkl)
        have h2 := h.last.2
        have h3 := h.room1
        have hf : fits S.now ⟨2, n, t.toNat, b⟩ := fun _ j hj e => by
          have e2 : (j : Int) = (k : Int) := e.trans hk
          obtain rfl : j = k := by omega
          show t.toNat + b.length ≤ _
          omega
        refine h.act hf (show t.toNat ≤ 4294967296 by omega) ?_
        have h1 := used_does S.now ⟨2, n, t.toNat, b⟩ hf
        simp at h1
        omega
theorem Inv.crash {c : Nat} {S : Sv} (h : Inv c S) (n m : Int) : Inv (c + 1) ⟨S.room, crash S n m, crash S n m, []⟩ := by
  rcases Nat.lt_or_ge n.toNat S.l.length with hlt | hge
  · obtain ⟨h1, h2, h3⟩ := h.all n.toNat (by omega)
    by_cases h4 : S.l[n.toNat].kind = 2
    · rw [crash_torn rfl hlt h4]
      refine Inv.plain h.room0 h.room1 ?_ ?_
      · have := does_len (rep S.was (S.l.take n.toNat)) (cut S.l[n.toNat] m)
        omega
      · have := used_does _ _ (fits_cut m (h3 hlt).1)
        have e : (cut S.l[n.toNat] m).kind = 2 := h4
        rw [e] at this
        simp at this
        omega
    · rw [crash_clean rfl hlt h4]
      exact (Inv.plain h.room0 h.room1 h1 h2).mono (Nat.le_succ _)
  · rw [crash_all hge, ← h.now]
    exact (Inv.plain h.room0 h.room1 h.last.1 h.last.2).mono (Nat.le_succ _)

end Vf
end Go.Proofs.Ytiacpopgnmledaa
