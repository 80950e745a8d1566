/-
  CHAPTER 12, PLAIN AND LAWS: a text of letters as an expression: its program, and where it is found; PikePlain.
-/
import Derived.Test.YtedppnejkjcplaaPkTwo
namespace Go.Proofs.Ytedppnejkjcplaa
namespace Pk
open Rx (In)
def Let (c : UInt8) : Prop := 97 ≤ c.toNat ∧ c.toNat ≤ 122
theorem let_ne {c : UInt8} (h : Let c) (k : UInt8) (hk : k.toNat < 97 ∨ 122 < k.toNat) : c ≠ k := fun e => by
  subst e
  unfold Let at h
  omega
def setI (c : UInt8) : In := ⟨1, 0, 0, [c, c]⟩
def plainL (s : List UInt8) : List In := ⟨4, 0, 0, []⟩ :: (s.map setI ++ [⟨4, 1, 0, []⟩, ⟨7, 0, 0, []⟩])
theorem plainL_len (s : List UInt8) : (plainL s).length = s.length + 3 := by unfold plainL; simp
theorem let_special {c : UInt8} (h : Let c) : Rc.special c = false := by
  have k1 := let_ne h 92 (by decide)
  have k2 := let_ne h 94 (by decide)
  have k3 := let_ne h 36 (by decide)
  have k4 := let_ne h 46 (by decide)
  have k5 := let_ne h 124 (by decide)
  have k6 := let_ne h 63 (by decide)
  have k7 := let_ne h 42 (by decide)
  have k8 := let_ne h 43 (by decide)
  have k9 := let_ne h 40 (by decide)
  have ka := let_ne h 41 (by decide)
  have kb := let_ne h 91 (by decide)
  unfold Rc.special
  simp [k1, k2, k3, k4, k5, k6, k7, k8, k9, ka, kb]
theorem let_sm {s : List UInt8} (h : ∀ c ∈ s, Let c) : Rc.Sm s := fun c hc => ⟨let_ne (h c hc) 46 (by decide), let_ne (h c hc) 91 (by decide), let_ne (h c hc) 92 (by decide)⟩
theorem piece_let (W : Rc.Rr → Rc.Rr) {s : List UInt8} (hs : ∀ c ∈ s, Let c) {i : Nat} {c : UInt8} (hc : s[i]? = some c) (L : List In) : Rc.piece W ⟨s, i, 0, 0, 0, L⟩ = ⟨s, i + 1, 0, 0, 0, L ++ [setI c]⟩ := by
  have h := hs c (List.mem_of_getElem? hc)
  have ha : Rc.atom W ⟨s, i, 0, 0, 0, L⟩ = ⟨s, i + 1, 0, 0, 0, L ++ [setI c]⟩ := by
    unfold Rc.atom
    simp only [hc]
    rw [if_neg (let_ne h 40 (by decide)), if_neg (let_ne h 94 (by decide)), if_neg (let_ne h 36 (by decide)), if_neg (by rw [let_special h]; decide)]
    rfl
  unfold Rc.piece
  rw [ha]
  show (if (0 : Int) ≠ 0 then _ else match s[i + 1]? with
    | none => _
    | some c => _) = _
  rw [if_neg (by simp)]
  cases hx : s[i + 1]? with
  | none => rfl
  | some x =>
    have h2 := hs x (List.mem_of_getElem? hx)
    show (if x ≠ 42 ∧ x ≠ 43 ∧ x ≠ 63 then _ else _) = _
    rw [if_pos ⟨let_ne h2 42 (by decide), let_ne h2 43 (by decide), let_ne h2 63 (by decide)⟩]
theorem row_let (W : Rc.Rr → Rc.Rr) {s : List UInt8} (hs : ∀ c ∈ s, Let c) : ∀ (k i : Nat) (L : List In), i + k = s.length → Rc.row W (k + 1) ⟨s, i, 0, 0, 0, L⟩ = ⟨s, s.length, 0, 0, 0, L ++ (s.drop i).map setI⟩
  | 0, i, L, h => by
    have hi : i = s.length := by omega
    subst hi
    rw [Rc.row_stop _ rfl (.inl (List.getElem?_eq_none (Nat.le_refl _)))]
    simp
  | k + 1, i, L, h => by
    have hi : i < s.length := by omega
    have hc : s[i]? = some s[i] := List.getElem?_eq_getElem hi
    have hl := hs _ (List.getElem_mem hi)
    rw [Rc.row_go (k + 1) rfl hc (let_ne hl 124 (by decide)) (let_ne hl 41 (by decide)), piece_let W hs hc, row_let W hs k (i + 1) _ (by omega), List.drop_eq_getElem_cons hi, List.map_cons, List.append_assoc]
    rfl
theorem plain_of {s : List UInt8} (hs : ∀ c ∈ s, Let c) (hl : s.length ≤ 60) : Rc.ofP s = (0, plainL s, true) := by
  have h1 : Rc.ways (s.length + 1) (Rc.first_ s) = ⟨s, s.length, 0, 0, 0, ⟨4, 0, 0, []⟩ :: s.map setI⟩ := by
    unfold Rc.ways
    have h2 : Rc.row (Rc.ways s.length) (s.length + 1) (Rc.first_ s) = ⟨s, s.length, 0, 0, 0, ⟨4, 0, 0, []⟩ :: s.map setI⟩ := by
      have := row_let (Rc.ways s.length) hs s.length 0 [⟨4, 0, 0, []⟩] (by omega)
      rw [List.drop_zero] at this
      exact this
    have h3 : Rc.row (Rc.ways s.length) ((Rc.first_ s).s.length + 1) (Rc.first_ s) = ⟨s, s.length, 0, 0, 0, ⟨4, 0, 0, []⟩ :: s.map setI⟩ := h2
    simp only [h3]
    rw [if_pos (.inr (by unfold Rc.more; rw [List.getElem?_eq_none (Nat.le_refl _)]; rfl))]
  unfold Rc.ofP Rc.compile
  rw [if_neg (by omega), h1]
  have h4 : Rc.ended ⟨s, s.length, 0, 0, 0, ⟨4, 0, 0, []⟩ :: s.map setI⟩ = ⟨s, s.length, 0, 0, 0, plainL s⟩ := by
    unfold Rc.ended plainL
    simp [Rc.lay]
  rw [h4]
  unfold Rc.out
  rw [if_neg (by simp), if_neg (by show ¬ 1024 < (plainL s).length; rw [plainL_len]; omega)]

/-! ## where it is found -/
theorem fetch_nat (L : List In) (p : Nat) : fetch L (p : Int) = L[p]? := by unfold fetch; simp
theorem plain_at {s : List UInt8} {j : Nat} (h : j < s.length) : fetch (plainL s) ((j + 1 : Nat) : Int) = some (setI s[j]) := by
  rw [fetch_nat]
  show (s.map setI ++ [_, _])[j]? = _
  rw [List.getElem?_append_left (by simpa using h)]
  simp [h]
theorem plain_save (s : List UInt8) : fetch (plainL s) ((s.length + 1 : Nat) : Int) = some ⟨4, 1, 0, []⟩ := by
  rw [fetch_nat]
  show (s.map setI ++ [_, _])[s.length]? = _
  rw [List.getElem?_append_right (by simp)]
  simp
theorem plain_match (s : List UInt8) : fetch (plainL s) ((s.length + 2 : Nat) : Int) = some ⟨7, 0, 0, []⟩ := by
  rw [fetch_nat]
  show (s.map setI ++ [_, _])[s.length + 1]? = _
  rw [List.getElem?_append_right (by simp)]
  simp
theorem has_two_same (a c : UInt8) : Rx.has [a, a] c = decide (c = a) := by
  unfold Rx.has Rx.has
  by_cases h : c = a
  · subst h
    simp
  · have : ¬ (a ≤ c ∧ c ≤ a) := fun ⟨h1, h2⟩ => h (UInt8.le_antisymm h2 h1)
    simp only [Bool.or_false]
    rw [decide_eq_false h]
    rw [← Bool.decide_and]
    exact decide_eq_false this
theorem act_set {t : List UInt8} {k : Nat} {h : Int} {r : Row} {a : UInt8} : act t k (setI a) h r = if t[k]? = some a then .next else .dead := by
  unfold act setI
  cases hc : t[k]? with
  | none => simp
  | some c =>
    by_cases e : c = a
    · subst e; simp [has_two_same]
    · simp [has_two_same, e]
theorem lin_from (s t : List UInt8) (k : Nat) : ∀ (d j : Nat) (S : Seen), s.length - j = d → j ≤ s.length → k + j ≤ t.length → (∀ q b, j + 1 ≤ q → S q b = false) →
    (dfs (plainL s) t S ((((j + 1 : Nat) : Int), k + j, [(k : Int), -1]) :: [])).1 = if (s.drop j).isPrefixOf (t.drop (k + j)) = true then some [(k : Int), ((k + s.length : Nat) : Int)] else none := by
  intro d
  induction d with
  | zero =>
    intro j S hd hj hk hS
    have : j = s.length := by omega
    subst this
    rw [dfs_go (x := ⟨4, 1, 0, []⟩) (m := [(((s.length + 2 : Nat) : Int), [(k : Int), ((k + s.length : Nat) : Int)])]) (plain_save s) (hS _ _ (Nat.le_refl _)) hk (by simp [act, put]; omega)]
    show (dfs (plainL s) t _ ((((s.length + 2 : Nat) : Int), k + s.length, [(k : Int), ((k + s.length : Nat) : Int)]) :: [])).1 = _
    rw [dfs_hit (x := ⟨7, 0, 0, []⟩) (plain_match s) (by simp [see, hS (s.length + 2) _ (by omega)]) hk rfl]
    simp
  | succ d ih =>
    intro j S hd hj hk hS
    have hjl : j < s.length := by omega
    by_cases ha : t[k + j]? = some s[j]
    · have hkl := (List.getElem?_eq_some_iff.1 ha).1
      rw [dfs_next (x := setI s[j]) (plain_at hjl) (hS _ _ (Nat.le_refl _)) hk (by rw [act_set, if_pos ha])]
      have := ih (j + 1) (see S (j + 1) (k + j)) (by omega) (by omega) (by omega) (fun q b hq => by
        have h1 := hS q b (by omega)
        have h2 : ¬ q = j + 1 := by omega
        simp [see, h1, h2])
      rw [show k + j + 1 = k + (j + 1) by omega, this, List.drop_eq_getElem_cons hjl, List.drop_eq_getElem_cons (i := k + j) hkl]
      have e : t[k + j] = s[j] := (List.getElem?_eq_some_iff.1 ha).2
      rw [e]
      have : ∀ (a : UInt8) (x y : List UInt8), List.isPrefixOf (a :: x) (a :: y) = x.isPrefixOf y := fun a x y => by simp [List.isPrefixOf]
      rw [this, show k + j + 1 = k + (j + 1) by omega]
    · rw [dfs_dead (x := setI s[j]) (plain_at hjl) (hS _ _ (Nat.le_refl _)) hk (by rw [act_set, if_neg ha]), dfs_nil, List.drop_eq_getElem_cons hjl]
      have : ((s[j] :: s.drop (j + 1)).isPrefixOf (t.drop (k + j))) = false := by
        by_cases hkl : k + j < t.length
        · rw [List.drop_eq_getElem_cons hkl]
          have : s[j] ≠ t[k + j] := fun e => ha (by rw [List.getElem?_eq_getElem hkl, e])
          simp [List.isPrefixOf, this]
        · have hh : t.drop (k + j) = [] := List.drop_eq_nil_of_le (by omega)
          rw [hh]
          rfl
      rw [this]
      rfl
theorem walk_plain (s t : List UInt8) {k : Nat} (hk : k ≤ t.length) : walk (plainL s) t 2 k = if s.isPrefixOf (t.drop k) = true then some [(k : Int), ((k + s.length : Nat) : Int)] else none := by
  unfold walk
  show (dfs (plainL s) t nothing ((((0 : Nat) : Int), k, [-1, -1]) :: [])).1 = _
  rw [dfs_go (x := ⟨4, 0, 0, []⟩) (m := [(1, [(k : Int), -1])]) rfl rfl hk (by simp [act, put])]
  have h := lin_from s t k s.length 0 (see nothing 0 k) (by omega) (Nat.zero_le _) (by omega) (fun q b hq => by
    have : ¬ q = 0 := by omega
    simp [see, nothing, this])
  simpa using h
/-- The first place where it stands, from k on. -/
def scan (s t : List UInt8) : Nat → Nat → Option Nat
  | _, 0 => none
  | k, n + 1 => if s.isPrefixOf (t.drop k) = true then some k else scan s t (k + 1) n
theorem first_plain (s t : List UInt8) : ∀ (n k : Nat), k + n = t.length + 1 → first (plainL s) t 2 k n = (scan s t k n).map fun (a : Nat) => [(a : Int), ((a + s.length : Nat) : Int)]
  | 0, _, _ => rfl
  | n + 1, k, h => by
    unfold first scan
    rw [walk_plain s t (by omega), first_plain s t n (k + 1) (by omega)]
    split <;> rfl
theorem plain_found (s t : List UInt8) : findP 0 (plainL s) t 0 = (scan s t 0 (t.length + 1)).map fun (a : Nat) => [(a : Int), ((a + s.length : Nat) : Int)] := by
  unfold findP
  rw [if_neg (by omega)]
  exact first_plain s t (t.length + 1) 0 (by omega)
theorem pre_short (s x : List UInt8) (h : x.length < s.length) : s.isPrefixOf x = false := by
  cases hb : s.isPrefixOf x
  · rfl
  · have := (List.isPrefixOf_iff_prefix.1 hb).length_le
    omega
theorem scan_none (s t : List UInt8) : ∀ (n k : Nat), k + n ≤ t.length + 1 → t.length < k + s.length → scan s t k n = none
  | 0, _, _, _ => rfl
  | n + 1, k, hn, h => by
    unfold scan
    rw [pre_short s _ (by rw [List.length_drop]; omega), scan_none s t n (k + 1) (by omega) (by omega)]
    rfl
/-- The place as the law has it. -/
def enc : Option Nat → Int
  | none => -1
  | some a => (a : Int)
theorem pre_take (s x : List UInt8) (h : s.length ≤ x.length) : s.isPrefixOf x = decide (x.take s.length = s) := by
  by_cases e : x.take s.length = s
  · rw [decide_eq_true e]
    have h2 := List.take_append_drop s.length x
    rw [e] at h2
    exact List.isPrefixOf_iff_prefix.2 ⟨x.drop s.length, h2⟩
  · rw [decide_eq_false e]
    cases hb : s.isPrefixOf x
    · rfl
    · obtain ⟨y, hy⟩ := List.isPrefixOf_iff_prefix.1 hb
      exfalso
      apply e
      rw [← hy]
      simp
end Pk
open Go.RowKit Go.Sort
open Me
open Pk

theorem find_none {W : World} {A : Option Addr} {c : Nat} {g : Int} {L : List Rx.In} {t : List UInt8} (hr : Rd W (fun _ => True) A (icells L)) (hL : L.length ≤ 4096) (ht : t.length ≤ 1048576) (hf : findP g L t 0 = none) :
    Calls Try.prog 13 #[.agg #[.int .i64 g, .slice A L.length c], .string ⟨t.toArray⟩, .int .i64 0] W fun e W' => e = .returned (.tuple #[.slice none 0 0, .bool false]) ∧ Below W.heap.size W W' := by
  refine (find_any hr hL ht).mono ?_
  rintro e W' ⟨v, bb, rfl, hb, hm⟩
  rw [hf] at hm
  obtain ⟨rfl, rfl⟩ := hm
  exact ⟨rfl, hb⟩

set_option maxRecDepth 100000 in
set_option maxHeartbeats 16000000 in
theorem lawPlain12 (s t : List UInt8) (W : World) :
    Calls Try.prog 6 #[.string ⟨s.toArray⟩, .string ⟨t.toArray⟩] W fun e W' => e = .returned (.bool true) ∧ Below W.heap.size W W' := by
  have HK := Lib.hid fun W => known12_any W
  by_cases h1 : 60 < s.length
  · have h1I : (60 : Int) < (s.length : Int) := by omega
    go_enter Try.func6, Try.ntmps6
    go_wp2_with fail
    go_ret
    exact ⟨rfl, Below.refl _ _⟩
  have h1I : ¬ (60 : Int) < (s.length : Int) := by omega
  by_cases h2 : 60 < t.length
  · have h2I : (60 : Int) < (t.length : Int) := by omega
    go_enter Try.func6, Try.ntmps6
    go_wp2_with fail
    go_ret
    exact ⟨rfl, Below.refl _ _⟩
  have h2I : ¬ (60 : Int) < (t.length : Int) := by omega
  have hsb : s.length ≤ 60 := by omega
  have htb : t.length ≤ 60 := by omega
  clear h1 h2
  go_enter Try.func6, Try.ntmps6
  go_wp2_with fail
  go_loopw [5] (fun x wr => ∃ i : Nat, x = .int .i64 (i : Int) ∧ i ≤ s.length ∧ Hid (∀ j c, j < i → s[j]? = some c → Let c) ∧ Hid (W = wr)) (fun x _ => s.length - (intOf x).toNat)
  case atStart => exact ⟨0, rfl, Nat.zero_le _, Lib.hid fun j c h => absurd h (Nat.not_lt_zero _), Lib.hid rfl⟩
  case round =>
    obtain ⟨i, rfl, hi, HA, HW⟩ := hrel
    obtain rfl : W = wr := HW.out
    clear HW
    have hi0 : (0 : Int) ≤ (i : Int) := by omega
    by_cases hlt : i < s.length
    · have hltI : (i : Int) < (s.length : Int) := by omega
      obtain ⟨c, hc⟩ : ∃ c, s[i]? = some c := ⟨_, List.getElem?_eq_getElem hlt⟩
      obtain ⟨z0, g0⟩ := Rc.byte_at hc
      by_cases hl1 : c.toNat < 97
      · have hl1I : (c.toNat : Int) < 97 := by omega
        clear hc
        go_wp2_with (go_at_call 12; go_must (refine (HK.out _).mono ?_; rintro e w3 ⟨rfl, hb3⟩; have HB3 := Lib.hid hb3; clear hb3))
        go_ret
        exact ⟨rfl, HB3.out⟩
      by_cases hl2 : 122 < c.toNat
      · have hl1I : ¬ (c.toNat : Int) < 97 := by omega
        have hl2I : (122 : Int) < (c.toNat : Int) := by omega
        clear hc
        go_wp2_with (go_at_call 12; go_must (refine (HK.out _).mono ?_; rintro e w3 ⟨rfl, hb3⟩; have HB3 := Lib.hid hb3; clear hb3))
        go_ret
        exact ⟨rfl, HB3.out⟩
      have hl1I : ¬ (c.toNat : Int) < 97 := by omega
      have hl2I : ¬ (122 : Int) < (c.toNat : Int) := by omega
      have HA2 : Hid (∀ j c, j < i + 1 → s[j]? = some c → Let c) := Lib.hid fun j c' hj h => by
        by_cases e : j = i
        · subst e
          rw [hc] at h
          obtain rfl := Option.some.inj h
          exact ⟨by omega, by omega⟩
        · exact HA.out j c' (by omega) h
      clear hc
      go_wp2_with fail
      go_roundw
      case rel => exact ⟨i + 1, by go_num, by omega, HA2, Lib.hid (by first | trivial | rfl)⟩
      case measure => first | (simp [intOf]; done) | (simp [intOf]; omega)
    · have hltI : ¬ (i : Int) < (s.length : Int) := by omega
      have HALL : Hid (∀ c ∈ s, Let c) := Lib.hid fun c hc => by
        obtain ⟨j, hj, rfl⟩ := List.mem_iff_getElem.1 hc
        exact HA.out j _ (by omega) (List.getElem?_eq_getElem hj)
      clear HA
      go_wp2_with fail
      go_loopw [6, 7] (fun av x wr => ∃ (k z : Int) (o : Option Nat), av = .int .i64 z ∧ x = .int .i64 k ∧ k ≤ (t.length : Int) - (s.length : Int) ∧ -61 ≤ k ∧ Hid (z = enc o) ∧ Hid (o = scan s t (k + 1).toNat (t.length + 1 - (k + 1).toNat)) ∧ Hid (W = wr)) (fun _ x _ => (intOf x + 1).toNat)
      case atStart => exact ⟨(t.length : Int) - (s.length : Int), -1, none, rfl, by first | rfl | (congr 1; omega), by omega, by omega, Lib.hid rfl, Lib.hid (scan_none s t _ _ (by omega) (by omega)).symm, Lib.hid rfl⟩
      case round =>
        obtain ⟨k, z, o, rfl, rfl, hk1, hk2, HZ, HO, HW⟩ := hrel
        obtain rfl : W = wr := HW.out
        clear HW
        by_cases hk0 : 0 ≤ k
        · obtain ⟨a, rfl⟩ : ∃ a : Nat, k = (a : Int) := ⟨k.toNat, by omega⟩
          obtain ⟨q, hq⟩ : ∃ q, q = (t.drop a).take s.length := ⟨_, rfl⟩
          have hex : (⟨t.toArray⟩ : ByteArray).extract a (a + s.length) = ⟨q.toArray⟩ := by rw [Rc.extr, hq]; congr 4; omega
          have hb1 : (a : Int) ≤ (a : Int) + (s.length : Int) := by omega
          have hb2 : (a : Int) + (s.length : Int) ≤ (t.length : Int) := by omega
          have hb3 : a + s.length ≤ t.length := by omega
          have HSC : Hid (scan s t a (t.length + 1 - a) = if q = s then some a else o) := Lib.hid (by
            rw [HO.out, show t.length + 1 - a = (t.length - a) + 1 by omega, show ((a : Int) + 1).toNat = a + 1 by omega, show t.length + 1 - (a + 1) = t.length - a by omega]
            show (if s.isPrefixOf (t.drop a) = true then some a else scan s t (a + 1) (t.length - a)) = _
            rw [pre_take s _ (by rw [List.length_drop]; omega), ← hq]
            simp)
          by_cases hqs : q = s
          · have hqb : (q == s) = true := by simpa using hqs
            have HN : Hid (some a = scan s t ((a : Int) - 1 + 1).toNat (t.length + 1 - ((a : Int) - 1 + 1).toNat)) := Lib.hid (by rw [show ((a : Int) - 1 + 1).toNat = a by omega, HSC.out, if_pos hqs])
            clear hqs hq HO
            go_wp2_with fail
            go_roundw
            case rel => exact ⟨(a : Int) - 1, (a : Int), some a, rfl, by go_num, by omega, by omega, Lib.hid rfl, HN, Lib.hid (by first | trivial | rfl)⟩
            case measure => first | (simp [intOf]; done) | (simp [intOf]; omega)
          · have hqb : (q == s) = false := by simpa using hqs
            have HN : Hid (o = scan s t ((a : Int) - 1 + 1).toNat (t.length + 1 - ((a : Int) - 1 + 1).toNat)) := Lib.hid (by rw [show ((a : Int) - 1 + 1).toNat = a by omega, HSC.out, if_neg hqs])
            clear hqs hq HO
            go_wp2_with fail
            go_roundw
            case rel => exact ⟨(a : Int) - 1, z, o, rfl, by go_num, by omega, by omega, HZ, HN, Lib.hid (by first | trivial | rfl)⟩
            case measure => first | (simp [intOf]; done) | (simp [intOf]; omega)
        · have HSC : Hid (o = scan s t 0 (t.length + 1)) := Lib.hid (by have := HO.out; rwa [show (k + 1).toNat = 0 by omega] at this)
          have HOF := Lib.hid (of_known (let_sm HALL.out) (by omega) (plain_of HALL.out hsb) W)
          have HPF := Lib.hid (plain_found s t)
          obtain ⟨P, hP⟩ : ∃ P, P = plainL s := ⟨_, rfl⟩
          have hPl : P.length ≤ 4096 := by rw [hP, plainL_len]; omega
          rw [← hP] at HOF HPF
          have HTB := Lib.hid htb
          clear hP HO
          cases o with
          | none =>
            obtain rfl : z = -1 := HZ.out
            have HF : Hid (findP 0 P t 0 = none) := Lib.hid (by rw [HPF.out, ← HSC.out]; rfl)
            clear HZ HSC
            go_wp2_with first
              | (go_at_call 11; go_must (refine HOF.out.mono ?_; rintro e w1 ⟨A, c, rfl, hb1, hr1, _⟩; have hb2 : Below W.heap.size W (w1.alloc (.cells #[.int .i64 0, .slice A P.length c] 24)) := hb1.alloc hb1.size _; have HB2 := Lib.hid hb2; have HR2 : Hid (Rd (w1.alloc (.cells #[.int .i64 0, .slice A P.length c] 24)) (fun _ => True) A (icells P)) := Lib.hid (hr1.below ((Below.refl _ _).alloc (Nat.le_refl _) _)); clear hb1 hr1 hb2))
              | (go_at_call 13; go_must (refine (find_none HR2.out hPl (by have := HTB.out; omega) HF.out).mono ?_; rintro e w3 ⟨rfl, hb3⟩; have HB3 := Lib.hid (HB2.out.trans (hb3.mono HB2.out.size)); clear hb3))
              | (go_at_call 12; go_must (refine (HK.out _).mono ?_; rintro e w4 ⟨rfl, hb4⟩; have HB4 := Lib.hid (HB3.out.trans (hb4.mono HB3.out.size)); clear hb4))
            go_ret
            exact ⟨rfl, HB4.out⟩
          | some a =>
            obtain rfl : z = (a : Int) := HZ.out
            have HF : Hid (findP 0 P t 0 = some [(a : Int), (a : Int) + (s.length : Int)]) := Lib.hid (by rw [HPF.out, ← HSC.out]; simp)
            have ha0 : (0 : Int) ≤ (a : Int) := by omega
            have hab : a ≤ 100000 := by
              have h := HSC.out
              have : ∀ n k, some a = scan s t k n → a ≤ k + n := by
                intro n
                induction n with
                | zero => intro k h; cases h
                | succ n ih =>
                  intro k h
                  unfold scan at h
                  split at h
                  · cases h; omega
                  · have := ih _ h; omega
              have := this _ _ h
              omega
            clear HZ HSC
            go_wp2_with first
              | (go_at_call 11; go_must (refine HOF.out.mono ?_; rintro e w1 ⟨A, c, rfl, hb1, hr1, _⟩; have hb2 : Below W.heap.size W (w1.alloc (.cells #[.int .i64 0, .slice A P.length c] 24)) := hb1.alloc hb1.size _; have HB2 := Lib.hid hb2; have HR2 : Hid (Rd (w1.alloc (.cells #[.int .i64 0, .slice A P.length c] 24)) (fun _ => True) A (icells P)) := Lib.hid (hr1.below ((Below.refl _ _).alloc (Nat.le_refl _) _)); clear hb1 hr1 hb2))
              | (go_at_call 13; go_must (refine (find_known HR2.out hPl (by have := HTB.out; omega) HF.out).mono ?_; rintro e w3 ⟨A3, c3, rfl, hb3, hr3⟩; have HB3 := Lib.hid (HB2.out.trans (hb3.mono HB2.out.size)); have HR3 := Lib.hid hr3; clear hb3 hr3))
              | (go_at_call 16; go_must (refine (two_known HR3.out _ rfl).mono ?_; rintro e w5 ⟨rfl, hb5⟩; have HB5 := Lib.hid (HB3.out.trans (hb5.mono HB3.out.size)); clear hb5))
              | (go_at_call 12; go_must (refine (HK.out _).mono ?_; rintro e w4 ⟨rfl, hb4⟩; have HB4 := Lib.hid (HB5.out.trans (hb4.mono HB5.out.size)); clear hb4))
            go_ret
            exact ⟨rfl, HB4.out⟩
end Go.Proofs.Ytedppnejkjcplaa
