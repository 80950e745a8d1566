/-
  CHAPTER 12, PLAIN: what is found for a byte any number of times, and for a text of letters.
-/
import Derived.Test.YtedppnejkjcplaaPkKn
namespace Go.Proofs.Ytedppnejkjcplaa
namespace Pk
open Rx (In)
section
variable {L : List In} {t : List UInt8} {S : Seen} {p k : Nat} {r : Row} {l : List Ent}
theorem dfs_go {x : In} {m : List (Int × Row)} (hf : fetch L (p : Int) = some x) (hS : S p k = false) (hk : k ≤ t.length) (ha : act t k x (p : Int) r = .go m) : dfs L t S (((p : Int), k, r) :: l) = dfs L t (see S p k) (m.map (fun e => (e.1, k, e.2)) ++ l) := by
  rw [dfs_act hf (by simpa using hS) hk, ha]
  simp
theorem dfs_dead {x : In} (hf : fetch L (p : Int) = some x) (hS : S p k = false) (hk : k ≤ t.length) (ha : act t k x (p : Int) r = .dead) : dfs L t S (((p : Int), k, r) :: l) = dfs L t (see S p k) l := by
  rw [dfs_act hf (by simpa using hS) hk, ha]
  simp
theorem dfs_next {x : In} (hf : fetch L (p : Int) = some x) (hS : S p k = false) (hk : k ≤ t.length) (ha : act t k x (p : Int) r = .next) : dfs L t S (((p : Int), k, r) :: l) = dfs L t (see S p k) ((((p + 1 : Nat) : Int), k + 1, r) :: l) := by
  rw [dfs_act hf (by simpa using hS) hk, ha]
  simp
theorem dfs_hit {x : In} (hf : fetch L (p : Int) = some x) (hS : S p k = false) (hk : k ≤ t.length) (ha : act t k x (p : Int) r = .hit) : (dfs L t S (((p : Int), k, r) :: l)).1 = some r := by
  rw [dfs_act hf (by simpa using hS) hk, ha]
end
def lead : List UInt8 → Nat
  | [] => 0
  | c :: l => if c = 97 then lead l + 1 else 0
/-- The programs of a*, a*? and (a|aa)*$. -/
def starE : List UInt8 := [97, 42]
def lazyE : List UInt8 := [97, 42, 63]
def pairE : List UInt8 := [40, 97, 124, 97, 97, 41, 42, 36]
def starL : List In := [⟨4, 0, 0, []⟩, ⟨2, 2, 4, []⟩, ⟨1, 0, 0, [97, 97]⟩, ⟨3, 1, 0, []⟩, ⟨4, 1, 0, []⟩, ⟨7, 0, 0, []⟩]
def lazyL : List In := [⟨4, 0, 0, []⟩, ⟨2, 4, 2, []⟩, ⟨1, 0, 0, [97, 97]⟩, ⟨3, 1, 0, []⟩, ⟨4, 1, 0, []⟩, ⟨7, 0, 0, []⟩]
def pairL : List In := [⟨4, 0, 0, []⟩, ⟨2, 2, 10, []⟩, ⟨4, 2, 0, []⟩, ⟨2, 4, 6, []⟩, ⟨1, 0, 0, [97, 97]⟩, ⟨3, 8, 0, []⟩, ⟨1, 0, 0, [97, 97]⟩, ⟨1, 0, 0, [97, 97]⟩, ⟨4, 3, 0, []⟩, ⟨3, 1, 0, []⟩, ⟨6, 0, 0, []⟩, ⟨4, 1, 0, []⟩, ⟨7, 0, 0, []⟩]
theorem star_of : Rc.ofP starE = (0, starL, true) := by decide +kernel
theorem lazy_of : Rc.ofP lazyE = (0, lazyL, true) := by decide +kernel
theorem pair_of : Rc.ofP pairE = (1, pairL, true) := by decide +kernel
theorem has_same (c : UInt8) : Rx.has [97, 97] c = decide (c = 97) := by
  unfold Rx.has Rx.has
  by_cases h : c = 97
  · subst h; rfl
  · have : ¬ (97 ≤ c ∧ c ≤ 97) := fun ⟨h1, h2⟩ => h (UInt8.le_antisymm h2 h1)
    simp [h]
    intro h1
    have h2 := UInt8.le_iff_toNat_le.1 h1
    have h3 : c.toNat ≠ 97 := fun e => h (UInt8.toNat_inj.1 e)
    rw [UInt8.lt_iff_toNat_lt]
    have h4 : (97 : UInt8).toNat = 97 := rfl
    omega
theorem set_hit {t : List UInt8} {k : Nat} {h : Int} {r : Row} (ht : t[k]? = some 97) : act t k ⟨1, 0, 0, [97, 97]⟩ h r = .next := by
  unfold act
  simp [ht, has_same]
theorem set_miss {t : List UInt8} {k : Nat} {h : Int} {r : Row} (ht : t[k]? ≠ some 97) : act t k ⟨1, 0, 0, [97, 97]⟩ h r = .dead := by
  unfold act
  cases hc : t[k]? with
  | none => simp
  | some c =>
    rw [hc] at ht
    have : c ≠ 97 := fun e => ht (by rw [e])
    simp [has_same, this]
theorem lead_at {t : List UInt8} {i : Nat} : lead (t.drop i) = if t[i]? = some 97 then lead (t.drop (i + 1)) + 1 else 0 := by
  by_cases hi : i < t.length
  · rw [List.drop_eq_getElem_cons hi, List.getElem?_eq_getElem hi]
    show (if t[i] = 97 then _ else _) = _
    simp
  · rw [List.drop_eq_nil_of_le (by omega), List.getElem?_eq_none (by omega)]
    simp [lead]
theorem star_from (t : List UInt8) : ∀ (d i : Nat) (S : Seen) (l : List Ent), t.length - i = d → i ≤ t.length → (∀ b, i ≤ b → S 1 b = false ∧ S 2 b = false ∧ S 4 b = false ∧ S 5 b = false) → (∀ b, i + 1 ≤ b → S 3 b = false) →
    (dfs starL t S ((((1 : Nat) : Int), i, [0, -1]) :: l)).1 = some [0, ((i + lead (t.drop i) : Nat) : Int)] := by
  intro d
  induction d with
  | zero =>
    intro i S l hd hi hS hS3
    have hil : i = t.length := by omega
    have hne : t[i]? ≠ some 97 := by rw [List.getElem?_eq_none (by omega)]; simp
    rw [dfs_go (x := ⟨2, 2, 4, []⟩) (m := [(2, [0, -1]), (4, [0, -1])]) rfl (hS i (Nat.le_refl _)).1 hi rfl]
    show (dfs starL t (see S 1 i) ((((2 : Nat) : Int), i, [0, -1]) :: (((4 : Nat) : Int), i, [0, -1]) :: l)).1 = _
    rw [dfs_dead (x := ⟨1, 0, 0, [97, 97]⟩) rfl (by simp [see, (hS i (Nat.le_refl _)).2.1]) hi (set_miss hne)]
    rw [dfs_go (x := ⟨4, 1, 0, []⟩) (m := [(5, [0, (i : Int)])]) rfl (by simp [see, (hS i (Nat.le_refl _)).2.2.1]) hi (by simp [act, put])]
    show (dfs starL t _ ((((5 : Nat) : Int), i, [0, (i : Int)]) :: l)).1 = _
    rw [dfs_hit (x := ⟨7, 0, 0, []⟩) rfl (by simp [see, (hS i (Nat.le_refl _)).2.2.2]) hi rfl, lead_at, if_neg hne]
    rfl
  | succ d ih =>
    intro i S l hd hi hS hS3
    rw [dfs_go (x := ⟨2, 2, 4, []⟩) (m := [(2, [0, -1]), (4, [0, -1])]) rfl (hS i (Nat.le_refl _)).1 hi rfl]
    show (dfs starL t (see S 1 i) ((((2 : Nat) : Int), i, [0, -1]) :: (((4 : Nat) : Int), i, [0, -1]) :: l)).1 = _
    by_cases ha : t[i]? = some 97
    · rw [dfs_next (x := ⟨1, 0, 0, [97, 97]⟩) rfl (by simp [see, (hS i (Nat.le_refl _)).2.1]) hi (set_hit ha)]
      rw [dfs_go (x := ⟨3, 1, 0, []⟩) (m := [(1, [0, -1])]) rfl (by simp [see, hS3 (i + 1) (Nat.le_refl _)]) (by omega) rfl]
      show (dfs starL t _ ((((1 : Nat) : Int), i + 1, [0, -1]) :: (((4 : Nat) : Int), i, [0, -1]) :: l)).1 = _
      rw [ih (i + 1) _ _ (by omega) (by omega) (fun b hb => ?_) (fun b hb => ?_), lead_at (i := i), if_pos ha]
      · congr 3; omega
      · have h1 := hS b (by omega)
        have : ¬ b = i := by omega
        simp [see, h1.1, h1.2.1, h1.2.2.1, h1.2.2.2, this]
      · have h1 := hS3 b (by omega)
        have : ¬ b = i + 1 := by omega
        simp [see, h1, this]
    · rw [dfs_dead (x := ⟨1, 0, 0, [97, 97]⟩) rfl (by simp [see, (hS i (Nat.le_refl _)).2.1]) hi (set_miss ha)]
      rw [dfs_go (x := ⟨4, 1, 0, []⟩) (m := [(5, [0, (i : Int)])]) rfl (by simp [see, (hS i (Nat.le_refl _)).2.2.1]) hi (by simp [act, put])]
      show (dfs starL t _ ((((5 : Nat) : Int), i, [0, (i : Int)]) :: l)).1 = _
      rw [dfs_hit (x := ⟨7, 0, 0, []⟩) rfl (by simp [see, (hS i (Nat.le_refl _)).2.2.2]) hi rfl, lead_at, if_neg ha]
      rfl
theorem star_found (t : List UInt8) : findP 0 starL t 0 = some [0, ((lead t : Nat) : Int)] := by
  unfold findP
  rw [if_neg (by omega)]
  show first starL t 2 0 (t.length + 1) = _
  unfold first walk
  show Option.or (dfs starL t nothing ((((0 : Nat) : Int), 0, [-1, -1]) :: [])).1 _ = _
  rw [dfs_go (x := ⟨4, 0, 0, []⟩) (m := [(1, [0, -1])]) rfl rfl (Nat.zero_le _) (by simp [act, put])]
  have h := star_from t t.length 0 (see nothing 0 0) [] (by omega) (Nat.zero_le _) (fun b _ => by simp [see, nothing]) (fun b _ => by simp [see, nothing])
  show Option.or (dfs starL t (see nothing 0 0) ((((1 : Nat) : Int), 0, [0, -1]) :: [])).1 _ = _
  rw [h]
  simp
theorem lazy_found (t : List UInt8) : findP 0 lazyL t 0 = some [0, 0] := by
  unfold findP
  rw [if_neg (by omega)]
  show first lazyL t 2 0 (t.length + 1) = _
  unfold first walk
  show Option.or (dfs lazyL t nothing ((((0 : Nat) : Int), 0, [-1, -1]) :: [])).1 _ = _
  rw [dfs_go (x := ⟨4, 0, 0, []⟩) (m := [(1, [0, -1])]) rfl rfl (Nat.zero_le _) (by simp [act, put])]
  show Option.or (dfs lazyL t (see nothing 0 0) ((((1 : Nat) : Int), 0, [0, -1]) :: [])).1 _ = _
  rw [dfs_go (x := ⟨2, 4, 2, []⟩) (m := [(4, [0, -1]), (2, [0, -1])]) rfl (by simp [see, nothing]) (Nat.zero_le _) rfl]
  show Option.or (dfs lazyL t _ ((((4 : Nat) : Int), 0, [0, -1]) :: (((2 : Nat) : Int), 0, [0, -1]) :: [])).1 _ = _
  rw [dfs_go (x := ⟨4, 1, 0, []⟩) (m := [(5, [0, 0])]) rfl (by simp [see, nothing]) (Nat.zero_le _) (by simp [act, put])]
  show Option.or (dfs lazyL t _ ((((5 : Nat) : Int), 0, [0, 0]) :: (((2 : Nat) : Int), 0, [0, -1]) :: [])).1 _ = _
  rw [dfs_hit (x := ⟨7, 0, 0, []⟩) rfl (by simp [see, nothing]) (Nat.zero_le _) rfl]
  rfl
theorem pair_from (n : Nat) : ∀ (d i : Nat) (S : Seen) (l : List Ent) (x y z : Int), n - i = d → i ≤ n → (∀ b, i ≤ b → S 1 b = false ∧ S 2 b = false ∧ S 3 b = false ∧ S 4 b = false ∧ S 6 b = false ∧ S 10 b = false ∧ S 11 b = false ∧ S 12 b = false) → (∀ b, i + 1 ≤ b → S 5 b = false ∧ S 8 b = false ∧ S 9 b = false) →
    (dfs pairL (List.replicate n 97) S ((((1 : Nat) : Int), i, [x, -1, y, z]) :: l)).1.isSome = true := by
  intro d
  induction d with
  | zero =>
    intro i S l x y z hd hi hS hS3
    have hil : i = n := by omega
    have hik : i ≤ (List.replicate n (97 : UInt8)).length := by rw [List.length_replicate]; exact hi
    have hne : (List.replicate n (97 : UInt8))[i]? ≠ some 97 := by rw [List.getElem?_eq_none (by rw [List.length_replicate]; omega)]; simp
    have h0 := hS i (Nat.le_refl _)
    rw [dfs_go (x := ⟨2, 2, 10, []⟩) (m := [(2, [x, -1, y, z]), (10, [x, -1, y, z])]) rfl h0.1 hik rfl]
    show (dfs pairL _ (see S 1 i) ((((2 : Nat) : Int), i, [x, -1, y, z]) :: (((10 : Nat) : Int), i, [x, -1, y, z]) :: l)).1.isSome = true
    rw [dfs_go (x := ⟨4, 2, 0, []⟩) (m := [(3, [x, -1, (i : Int), z])]) rfl (by simp [see, h0.2.1]) hik (by simp [act, put])]
    show (dfs pairL _ _ ((((3 : Nat) : Int), i, [x, -1, (i : Int), z]) :: (((10 : Nat) : Int), i, [x, -1, y, z]) :: l)).1.isSome = true
    rw [dfs_go (x := ⟨2, 4, 6, []⟩) (m := [(4, [x, -1, (i : Int), z]), (6, [x, -1, (i : Int), z])]) rfl (by simp [see, h0.2.2.1]) hik rfl]
    show (dfs pairL _ _ ((((4 : Nat) : Int), i, [x, -1, (i : Int), z]) :: (((6 : Nat) : Int), i, [x, -1, (i : Int), z]) :: (((10 : Nat) : Int), i, [x, -1, y, z]) :: l)).1.isSome = true
    rw [dfs_dead (x := ⟨1, 0, 0, [97, 97]⟩) rfl (by simp [see, h0.2.2.2.1]) hik (set_miss hne)]
    rw [dfs_dead (x := ⟨1, 0, 0, [97, 97]⟩) rfl (by simp [see, h0.2.2.2.2.1]) hik (set_miss hne)]
    rw [dfs_go (x := ⟨6, 0, 0, []⟩) (m := [(11, [x, -1, y, z])]) rfl (by simp [see, h0.2.2.2.2.2.1]) hik (by simp [act, hil])]
    show (dfs pairL _ _ ((((11 : Nat) : Int), i, [x, -1, y, z]) :: l)).1.isSome = true
    rw [dfs_go (x := ⟨4, 1, 0, []⟩) (m := [(12, [x, (i : Int), y, z])]) rfl (by simp [see, h0.2.2.2.2.2.2.1]) hik (by simp [act, put])]
    show (dfs pairL _ _ ((((12 : Nat) : Int), i, [x, (i : Int), y, z]) :: l)).1.isSome = true
    rw [dfs_hit (x := ⟨7, 0, 0, []⟩) rfl (by simp [see, h0.2.2.2.2.2.2.2]) hik rfl]
    rfl
  | succ d ih =>
    intro i S l x y z hd hi hS hS3
    have hik : i ≤ (List.replicate n (97 : UInt8)).length := by rw [List.length_replicate]; exact hi
    have hik1 : i + 1 ≤ (List.replicate n (97 : UInt8)).length := by rw [List.length_replicate]; omega
    have ha : (List.replicate n (97 : UInt8))[i]? = some 97 := by rw [List.getElem?_replicate, if_pos (by omega)]
    have h0 := hS i (Nat.le_refl _)
    have h3 := hS3 (i + 1) (Nat.le_refl _)
    rw [dfs_go (x := ⟨2, 2, 10, []⟩) (m := [(2, [x, -1, y, z]), (10, [x, -1, y, z])]) rfl h0.1 hik rfl]
    show (dfs pairL _ (see S 1 i) ((((2 : Nat) : Int), i, [x, -1, y, z]) :: (((10 : Nat) : Int), i, [x, -1, y, z]) :: l)).1.isSome = true
    rw [dfs_go (x := ⟨4, 2, 0, []⟩) (m := [(3, [x, -1, (i : Int), z])]) rfl (by simp [see, h0.2.1]) hik (by simp [act, put])]
    show (dfs pairL _ _ ((((3 : Nat) : Int), i, [x, -1, (i : Int), z]) :: (((10 : Nat) : Int), i, [x, -1, y, z]) :: l)).1.isSome = true
    rw [dfs_go (x := ⟨2, 4, 6, []⟩) (m := [(4, [x, -1, (i : Int), z]), (6, [x, -1, (i : Int), z])]) rfl (by simp [see, h0.2.2.1]) hik rfl]
    show (dfs pairL _ _ ((((4 : Nat) : Int), i, [x, -1, (i : Int), z]) :: (((6 : Nat) : Int), i, [x, -1, (i : Int), z]) :: (((10 : Nat) : Int), i, [x, -1, y, z]) :: l)).1.isSome = true
    rw [dfs_next (x := ⟨1, 0, 0, [97, 97]⟩) rfl (by simp [see, h0.2.2.2.1]) hik (set_hit ha)]
    rw [dfs_go (x := ⟨3, 8, 0, []⟩) (m := [(8, [x, -1, (i : Int), z])]) rfl (by simp [see, h3.1]) hik1 rfl]
    show (dfs pairL _ _ ((((8 : Nat) : Int), i + 1, [x, -1, (i : Int), z]) :: _)).1.isSome = true
    rw [dfs_go (x := ⟨4, 3, 0, []⟩) (m := [(9, [x, -1, (i : Int), ((i + 1 : Nat) : Int)])]) rfl (by simp [see, h3.2.1]) hik1 (by simp [act, put])]
    show (dfs pairL _ _ ((((9 : Nat) : Int), i + 1, [x, -1, (i : Int), ((i + 1 : Nat) : Int)]) :: _)).1.isSome = true
    rw [dfs_go (x := ⟨3, 1, 0, []⟩) (m := [(1, [x, -1, (i : Int), ((i + 1 : Nat) : Int)])]) rfl (by simp [see, h3.2.2]) hik1 rfl]
    show (dfs pairL _ _ ((((1 : Nat) : Int), i + 1, [x, -1, (i : Int), ((i + 1 : Nat) : Int)]) :: _)).1.isSome = true
    refine ih (i + 1) _ _ _ _ _ (by omega) (by omega) (fun b hb => ?_) (fun b hb => ?_)
    · have h1 := hS b (by omega)
      have : ¬ b = i := by omega
      simp [see, h1, this]
    · have h1 := hS3 b (by omega)
      have : ¬ b = i + 1 := by omega
      simp [see, h1, this]
theorem pair_found (n : Nat) : (findP 1 pairL (List.replicate n 97) 0).isSome = true := by
  unfold findP
  rw [if_neg (by omega)]
  show (first pairL (List.replicate n 97) 4 0 ((List.replicate n (97 : UInt8)).length + 1)).isSome = true
  unfold first walk
  show (Option.or (dfs pairL _ nothing ((((0 : Nat) : Int), 0, [-1, -1, -1, -1]) :: [])).1 _).isSome = true
  rw [dfs_go (x := ⟨4, 0, 0, []⟩) (m := [(1, [0, -1, -1, -1])]) rfl rfl (Nat.zero_le _) (by simp [act, put])]
  have h := pair_from n n 0 (see nothing 0 0) [] 0 (-1) (-1) (by omega) (Nat.zero_le _) (fun b _ => by simp [see, nothing]) (fun b _ => by simp [see, nothing])
  show (Option.or (dfs pairL (List.replicate n 97) (see nothing 0 0) ((((1 : Nat) : Int), 0, [0, -1, -1, -1]) :: [])).1 _).isSome = true
  rw [Option.isSome_or, h]
  rfl
theorem lead_rep (n : Nat) (m : List UInt8) : lead (List.replicate n 97 ++ m) = n + lead m := by
  induction n with
  | zero => simp
  | succ n ih =>
    rw [List.replicate_succ, List.cons_append]
    show (if (97 : UInt8) = 97 then lead (List.replicate n 97 ++ m) + 1 else 0) = _
    rw [if_pos rfl, ih]
    omega
end Pk
end Go.Proofs.Ytedppnejkjcplaa
