/-
  TrWildW: CONTRACTS: package trie: wildOf, the walk.
  TrLikely: CONTRACTS: package trie: likely: the branches that may be matched.
-/
import Derived.Test.YtfmbbhcjnidcbaaGreatDoorJ35

namespace Go.Proofs.YtfmbbhcjnidcbaaGreatDoor
open Go.RowKit
open Me

namespace Tr
theorem rows_slice {base : Nat} {w : World} {e : TypeId} {s : Nat} {v : Value} {n : Nat} {xs : List Value} (h : w.ownsRow base e s v n xs) : ∃ A c, v = .slice A n c := by
  rcases h.2 with ⟨rfl, rfl⟩ | ⟨g, cap, cur, rfl, _⟩
  · exact ⟨_, _, rfl⟩
  · exact ⟨_, _, rfl⟩
theorem row_cells {base : Nat} {w : World} {e : TypeId} {s : Nat} {v : Value} {n : Nat} {xs : List Value} (h : w.ownsRow base e s v n xs) {g : Nat} (hg : v.ownBlock = some g) : ∃ cur, w.heap[g]? = some (.cells cur e (0, 0)) := by
  rcases h.2 with ⟨rfl, _⟩ | ⟨g', cap, cur, rfl, _, hb, _⟩
  · cases hg
  · have e1 : g' = g := by simpa [Value.ownBlock] using hg
    subst e1
    exact ⟨cur, hb⟩
theorem row_not_iter {base : Nat} {w : World} {e : TypeId} {s : Nat} {v : Value} {n : Nat} {xs : List Value} (h : w.ownsRow base e s v n xs) {mb : Option Nat} {r k : Nat} {m : List UInt8 → Option Nat} {left : List UInt8 → Bool} {cnt : Nat} (hr : Rgs w mb r k m left cnt) : v.ownBlock ≠ some r := by
  intro hg
  obtain ⟨cur, hb⟩ := row_cells h hg
  obtain ⟨_, x, y, z, u, hi⟩ := hr.lt
  rw [hi] at hb
  cases hb
theorem Rgs.same_left {w w' : World} {mb : Option Nat} {r k : Nat} {m : List UInt8 → Option Nat} {left : List UInt8 → Bool} {cnt : Nat} (h : Rgs w mb r k m left cnt) (h' : Rgs w' mb r k m left cnt) : rgLeft w' mb r = rgLeft w mb r := by
  cases mb with
  | none => rfl
  | some b => rw [h.left_eq, h'.left_eq]
theorem Rgs.below {B : Nat} {w w' : World} {mb : Option Nat} {r k : Nat} {m : List UInt8 → Option Nat} {left : List UInt8 → Bool} {cnt : Nat} (h : Rgs w mb r k m left cnt) (hb : Below B w w') (hB : B = w.heap.size) : Rgs w' mb r k m left cnt := by
  subst hB
  exact h.kept (hb.block r h.lt.1) fun b hm => hb.block b (h.mp.lt hm).1
/-- Beside an append onto a row of one's own. -/
theorem Rgs.app {w w' : World} {mb : Option Nat} {r k : Nat} {m : List UInt8 → Option Nat} {left : List UInt8 → Bool} {cnt : Nat} (h : Rgs w mb r k m left cnt) {base : Nat} {e : TypeId} {s : Nat} {v : Value} {n : Nat} {xs news : List Value} {j : Nat} {v' : Value} (ha : App w base e s v n xs j news v' w') (hm : ∀ b, mb = some b → b < base) : Rgs w' mb r k m left cnt :=
  h.kept (ha.grown.block r h.lt.1 (fun e => row_not_iter ha.old h e.symm)) fun b hb => ha.grown.block b (h.mp.lt hb).1 fun e => by have := World.ownsRow.lt ha.old b e.symm; have := hm b hb; omega
theorem owns_below {w w' : World} {base : Nat} {e : TypeId} {s : Nat} {v : Value} {n : Nat} {xs : List Value} (h : w.ownsRow base e s v n xs) {B : Nat} (hb : Below B w w') (hB : B = w.heap.size) : w'.ownsRow base e s v n xs := by
  subst hB
  exact owns_keep h fun g hg => hb.block g (World.ownsRow.lt h g hg).2
theorem App.below {w w' : World} {base : Nat} {e : TypeId} {s : Nat} {v : Value} {n : Nat} {xs news : List Value} {j : Nat} {v' : Value} (ha : App w base e s v n xs j news v' w') {W : World} (h : Below base W w) (hs : base ≤ w.heap.size) : Below base W w' := h.grown ha.grown hs fun g hg => (World.ownsRow.lt ha.old g hg).1
end Tr

set_option maxRecDepth 100000 in
set_option maxHeartbeats 2000000 in
theorem wildOf_any {w : World} {T0 : TypeId} {x0 : Value} {c N d : Nat} {G : Tr.Ns} (hT : Tr.Tree w T0 x0 c G) (X : List Tr.Path) (A : Option Addr) (cap : Nat) (hr : Rd w (fun _ => True) A (Tr.pvs G X)) (hX : X.Nodup) (hXd : ∀ x ∈ X, x.length = d ∧ G x ≠ none) (hN : Tr.Thin G N) (hN9 : N ≤ 1099511627776) (hm : Mx w) :
    Calls Tryz.prog 45 #[.slice A X.length cap] w fun e w' => ∃ v C, e = .returned v ∧ Tr.OwnC w.heap.size w' v G C ∧ Tr.Wild G X C ∧ Below w.heap.size w w' := by
  obtain ⟨i0, hi0, hz0, hz1, hz2⟩ := info_parts Tr.choiceinfo
  have HI := Lib.hid hi0
  have HZ := Lib.hid (And.intro hz0 (And.intro hz1 hz2))
  have HT := Lib.hid hT
  have HR := Lib.hid hr
  have HX := Lib.hid hX
  have HM : Hid (∀ W, Below w.heap.size w W → Mx W) := Lib.hid fun W h => hm.below h
  have HXn : Hid (∀ k (h : k < X.length), ∃ n, G X[k] = some n) := Lib.hid fun k h => Option.ne_none_iff_exists'.1 (hXd _ (List.getElem_mem h)).2
  have hXl : X.length ≤ 1099511627776 := Nat.le_trans (hN d X hX hXd) hN9
  have HCl : Hid (∀ C : List (Tr.Path × List UInt8), C.Nodup → (∀ x a, (x, a) ∈ C → x ∈ X ∧ G (x ++ [a]) ≠ none) → C.length ≤ 1099511627776) := Lib.hid fun C h1 h2 => Nat.le_trans (Tr.pairs_le (d := d) hN h1 fun x a h => ⟨(hXd x (h2 x a h).1).1, (h2 x a h).2⟩) hN9
  have HKey : Hid (∀ x k, G (x ++ [k]) ≠ none → k.length ≤ 1048576) := Lib.hid hT.key
  have hln : (X.length : Int) ≤ 1099511627776 := by omega
  clear hT hr hX hXd hN hN9 hm hi0 hz0 hz1 hz2
  go_enter Tryz.func45, Tryz.ntmps45
  go_wp2_with fail
  go_loopw [3, 10] (fun lv i wr => ∃ (k : Nat) (C : List (Tr.Path × List UInt8)) (v : Value), v = lv ∧ k ≤ X.length ∧ i = .int .i64 k ∧ Hid (Tr.OwnC w.heap.size wr v G C) ∧ Hid (Tr.Wild G (X.take k) C) ∧ Hid (Below w.heap.size w wr)) (fun _ i _ => X.length - (intOf i).toNat)
  case atStart => exact ⟨0, [], _, rfl, Nat.zero_le _, rfl, Lib.hid ⟨rfl, .inl ⟨rfl, rfl⟩⟩, Lib.hid ⟨List.nodup_nil, fun x a => by simp⟩, Lib.hid (Below.refl _ _)⟩
  case round =>
    obtain ⟨k, C, v, rfl, hk, rfl, HO, HW, HB⟩ := hrel
    have hk0 : (0 : Int) ≤ (k : Int) := by omega
    by_cases hlt : k < X.length
    · obtain ⟨lb, lo, rfl, hlb, _, hx⟩ := HR.out.lit k (by rw [Tr.pvs_len]; exact hlt)
      obtain ⟨n, hn⟩ := HXn.out k hlt
      have ec := (HB.out.cell (p := ⟨lb, lo + k, none⟩) hlb).trans (hx k _ (Tr.pvs_get G X k hlt))
      rw [Tr.pv_of hn] at ec
      have hkl : (k : Int) < (X.length : Int) := by omega
      have hc0 := ((HT.out.below HB.out).cell hn).1
      have HMp := Lib.hid ((HT.out.below HB.out).map _ _ hn)
      have HMl : Hid (∀ b, n.mb = some b → b < w.heap.size) := Lib.hid fun b hb => ((HT.out.map _ _ hn).lt hb).1
      have hkx := Lib.hid hlt
      clear hx
      have HSt : Hid (∀ left : List UInt8 → Bool, (∀ a, left a = (((G (X[k] ++ [a])).map (·.b)).isSome)) → Tr.WildAt G X k X[k] left C) := Lib.hid fun left h => Tr.WildAt.start hlt HW.out h
      have HDone : Hid (∀ left C, Tr.WildAt G X k X[k] left C → (∀ a, left a = false) → Tr.Wild G (X.take (k + 1)) C) := Lib.hid fun left C h hl => h.done hlt hl
      have HPu : Hid (∀ left C a, Tr.WildAt G X k X[k] left C → Gl.plainB a = false → left a = true → G (X[k] ++ [a]) ≠ none → Tr.WildAt G X k X[k] (fun n => left n && !decide (n = a)) (C ++ [(X[k], a)])) := Lib.hid fun left C a h h1 h2 h3 => h.push HX.out hlt h1 h2 h3
      have HMem : Hid (∀ left C, Tr.WildAt G X k X[k] left C → ∀ x a, (x, a) ∈ C → x ∈ X ∧ G (x ++ [a]) ≠ none) := Lib.hid fun left C h x a hm => by
        obtain ⟨h1, h2, _⟩ := (h.mem x a).1 hm
        exact ⟨h1.elim List.mem_of_mem_take fun h => h.1 ▸ List.getElem_mem hlt, h2⟩
      clear HW hn
      generalize X[k] = x at *
      generalize n.mb = mb at *
      generalize n.b = nb at *
      go_wp2_with (first
        | (at_range; refine wpList_range_mp rfl _ rfl mb c _ rfl HMp.out ?_; intro w1 cnt1 hrg1 hg1 hs1; have HRg1 := Lib.hid hrg1; have HB1 : Hid (Below w.heap.size w w1) := Lib.hid (HB.out.grown hg1 HB.out.size (fun j hj => by cases hj)); have HO1 : Hid (Tr.OwnC w.heap.size w1 v G C) := Lib.hid (HO.out.kept hg1 (Classical.em _)); clear hrg1)
        | go_in)
      have hszr := HB.out.size
      have HWA := Lib.hid (HSt.out (fun a => ((G (x ++ [a])).map (·.b)).isSome) fun a => rfl)
      have hro : w.heap.size ≤ wr.heap.size := hszr
      clear HSt HMp HO hg1 hs1 hc0 ec HB
      generalize wr.heap.size = r at *
      go_frame
      go_loopw [3] (fun lv wq => ∃ (C : List (Tr.Path × List UInt8)) (v : Value) (left : List UInt8 → Bool) (cnt : Nat), v = lv ∧ Hid (Tr.Rgs wq mb r c (fun a => (G (x ++ [a])).map (·.b)) left cnt) ∧ Hid (Tr.OwnC w.heap.size wq v G C) ∧ Hid (Tr.WildAt G X k x left C) ∧ Hid (Below w.heap.size w wq)) (fun _ wq => Tr.rgLeft wq mb r)
      case atStart => exact ⟨C, v, _, _, rfl, HRg1, HO1, HWA, HB1⟩
      case round =>
        obtain ⟨C, v, left, cnt, rfl, HRg, HOq, HWq, HBq⟩ := hrel
        clear HRg1 HO1 HWA HB1
        have hbs := HBq.out.size
        go_wp2_with (first
          | (at_next; refine wpList_next_mp rfl _ rfl mb r c _ left cnt rfl HRg.out ?_ ?_)
          | go_in)
        · intro hl0
          have HWn := Lib.hid (HDone.out left C HWq.out hl0)
          clear hl0
          go_wp2_with fail
          go_roundw
          case rel => exact ⟨k + 1, C, v, rfl, by omega, by go_num, HOq, HWn, HBq⟩
          case measure => simp [intOf]; omega
        · intro a cb w2 cnt2 hla y hy hyb hrg2 hlt2 hg2 hs2 hen
          have hfa : G (x ++ [a]) ≠ none := by rw [hy]; simp
          have hpv : Tr.pv G (x ++ [a]) = .pointer (some ⟨cb, 0, none⟩) := by rw [Tr.pv_of hy, hyb]
          have hal := HKey.out x a hfa
          have HB2 : Hid (Below w.heap.size w w2) := Lib.hid (HBq.out.grown hg2 hbs (fun j hj => by cases hj; exact hro))
          have HRg2 := Lib.hid hrg2
          have HO2 : Hid (Tr.OwnC w.heap.size w2 v G C) := Lib.hid (HOq.out.kept hg2 (Or.inr (fun e => Tr.row_not_iter HOq.out HRg.out e)))
          have HPl := Lib.hid (fun W h => plain_any a (by omega) W (HM.out W h))
          have HLt : Hid (Tr.rgLeft w2 mb r < Tr.rgLeft wr mb r) := Lib.hid hlt2
          have HPu2 := Lib.hid (HPu.out left C a HWq.out)
          have HSk2 := Lib.hid (fun h => HWq.out.skip (k := a) h)
          have HMem2 := HMem
          have HFa := Lib.hid hfa
          have HLa := Lib.hid hla
          have HPv := Lib.hid hpv
          clear hrg2 hlt2 hla hfa hpv hy hyb
          have hb2s := HB2.out.size
          cases hp : Gl.plainB a
          · rw [hp] at HPl HPu2
            have HWp := Lib.hid (HPu2.out rfl HLa.out HFa.out)
            have hCl := HCl.out _ HWp.out.nodup (HMem.out _ _ HWp.out)
            rw [List.length_append, List.length_singleton] at hCl
            clear HPu2 HSk2 hp
            go_wp2_with first
              | (go_at_call 72; go_must (refine (HPl.out w2 HB2.out).mono ?_; rintro e w3 ⟨rfl, hb3⟩; have hB3 := HB2.out.trans (hb3.mono hb2s); have hb3s := hB3.size; have hRg3 := HRg2.out.below hb3 rfl; have hO3 := Tr.owns_below HO2.out hb3 rfl))
              | (at_builtin; refine wpList_push _ rfl _ _ 84 rfl w.heap.size 119 i0 _ 2 24 Tryz.underlying84 HI.out HZ.out.1 HZ.out.2.1 HZ.out.2.2 rfl (by decide) v C.length (Tr.cvs G C) rfl (Tr.owns_below hO3 ((Below.refl _ _).alloc (Nat.le_refl _) _) rfl) ⟨w3.heap.size, 0, none⟩ 1 1 [.pointer (some ⟨cb, 0, none⟩), .string ⟨a.toArray⟩] rfl rfl (cells_new w3 [.pointer (some ⟨cb, 0, none⟩), .string ⟨a.toArray⟩] 119) (fun u hu => by simp at hu; rcases hu with rfl | rfl <;> rfl) (by decide) (by unfold maxLen; omega) (by omega) (by simp; omega) ?_; intro v4 w4 hA4; have HB4 := Lib.hid (Tr.App.below hA4 (hB3.alloc hb3s _) (by simp; omega)); have HRg4 := Lib.hid ((hRg3.below ((Below.refl _ _).alloc (Nat.le_refl _) _) rfl).app hA4 HMl.out); have hO4 := hA4.own; clear hA4)
            have HO4 : Hid (Tr.OwnC w.heap.size w4 v4 G (C ++ [(x, a)])) := Lib.hid (by unfold Tr.OwnC; rw [List.length_append, Tr.cvs_snoc, HPv.out]; exact hO4)
            have HM4 : Hid (Tr.rgLeft w4 mb r < Tr.rgLeft wr mb r) := Lib.hid (by rw [HRg2.out.same_left HRg4.out]; exact HLt.out)
            clear hO4
            go_roundw
            case rel => exact ⟨C ++ [(x, a)], v4, _, _, rfl, HRg4, HO4, HWp, HB4⟩
            case measure => exact HM4.out
          · rw [hp] at HPl HSk2
            have HWs := Lib.hid (HSk2.out rfl)
            clear HPu2 HSk2 hp
            go_wp2_with (go_at_call 72; go_must (refine (HPl.out w2 HB2.out).mono ?_; rintro e w3 ⟨rfl, hb3⟩; have HB3 := Lib.hid (HB2.out.trans (hb3.mono hb2s)); have HRg3 := Lib.hid (HRg2.out.below hb3 rfl); have HO3 : Hid (Tr.OwnC w.heap.size w3 v G C) := Lib.hid (Tr.owns_below HO2.out hb3 rfl)))
            have HM3 : Hid (Tr.rgLeft w3 mb r < Tr.rgLeft wr mb r) := Lib.hid (by rw [HRg2.out.same_left HRg3.out]; exact HLt.out)
            go_roundw
            case rel => exact ⟨C, v, _, _, rfl, HRg3, HO3, HWs, HB3⟩
            case measure => exact HM3.out
    · obtain rfl : k = X.length := by omega
      rw [List.take_length] at HW
      go_wp2
      go_ret
      exact ⟨_, C, rfl, HO.out, HW.out, HB.out⟩
end Go.Proofs.YtfmbbhcjnidcbaaGreatDoor

namespace Go.Proofs.YtfmbbhcjnidcbaaGreatDoor
open Go.RowKit
open Me

namespace Tr
theorem Mp.keys {w : World} {mb : Option Nat} {k : Nat} {m : List UInt8 → Option Nat} (h : Mp w mb k m) : ∃ ks : List (List UInt8), ks.Nodup ∧ (∀ x, x ∈ ks ↔ m x ≠ none) ∧ ks.length ≤ k ∧ ∀ b D, mb = some b → w.ownsMap Tryz.prog 9 ptrR b k D → ks.length = Maps.size D := by
  rcases h with ⟨rfl, h⟩ | ⟨b, D, rfl, hown, hs⟩
  · exact ⟨[], List.nodup_nil, fun x => by rw [h x]; simp, Nat.zero_le _, fun _ _ h => by cases h⟩
  · obtain ⟨es, hD, hpw, _⟩ := hown.entries keyS
    obtain ⟨es', hD', hko⟩ := hown.keysOf
    obtain rfl : es = es' := by rw [hD] at hD'; simpa using hD'
    have hle := hown.size_le
    subst hD
    have hkey : ∀ p ∈ es, ∃ x, p.1 = .string x := fun p hp => by
      obtain ⟨v, hv⟩ := hko p hp
      obtain ⟨x, _, hx, _⟩ := Maps.keyOf_str Tryz.underlying9 hv
      exact ⟨x, hx⟩
    refine ⟨es.map fun p => strOf p.1, ?_, fun x => ?_, by rw [List.length_map]; exact hle, fun b' D' hb' ho' => ?_⟩
    · refine List.pairwise_map.2 (hpw.imp_of_mem fun {p q} hp hq hne e => hne ?_)
      obtain ⟨a, ha⟩ := hkey p hp
      obtain ⟨b, hb⟩ := hkey q hq
      rw [ha, hb] at e ⊢
      exact congrArg _ e
    · have h1 := hs.has x
      rw [Maps.has_eq] at h1
      have h2 : (m x ≠ none) ↔ (m x).isSome = true := by cases m x <;> simp
      rw [h2, ← h1, List.any_eq_true, List.mem_map]
      constructor
      · rintro ⟨p, hp, rfl⟩
        obtain ⟨a, ha⟩ := hkey p hp
        exact ⟨p, hp, by rw [ha]; simp [Lit.sameKey, strOf]⟩
      · rintro ⟨p, hp, he⟩
        obtain ⟨a, ha⟩ := hkey p hp
        refine ⟨p, hp, ?_⟩
        rw [ha] at he ⊢
        simpa [Lit.sameKey, strOf] using he
    · obtain rfl := Option.some.inj hb'
      obtain ⟨a1, c1, hb1, _, _, e1⟩ := hown
      obtain ⟨a2, c2, hb2, _, _, e2⟩ := ho'
      rw [hb1] at hb2
      cases hb2
      rw [List.length_map, e2, ← e1]
      rfl
/-- A map whose keys are among those of another one is no greater. -/
theorem Mp.shrink {w : World} {mb mb2 : Option Nat} {k c : Nat} {m m2 : List UInt8 → Option Nat} (h : Mp w mb k m) (h2 : Mp w mb2 c m2) (hs : ∀ x, m x ≠ none → m2 x ≠ none) : Mp w mb c m := by
  obtain ⟨ks, a1, a2, _, a4⟩ := h.keys
  obtain ⟨ks2, _, b2, b3, _⟩ := h2.keys
  have hle : ks.length ≤ c := Nat.le_trans (len_le_of_mem a1 fun x hx => (b2 x).2 (hs x ((a2 x).1 hx))) b3
  rcases h with h | ⟨b, D, hmb, hown, hsay⟩
  · exact .inl h
  · have hsz := a4 b D hmb hown
    obtain ⟨es, clock, hb, F, hes, hD⟩ := hown
    refine .inr ⟨b, D, hmb, ⟨es, clock, hb, F, ?_, hD⟩, hsay⟩
    have e1 : Maps.size D = es.size := by rw [hD]; simp [Maps.size, length_sorted]
    omega
theorem Mp.below {B : Nat} {w w' : World} {mb : Option Nat} {k : Nat} {m : List UInt8 → Option Nat} (h : Mp w mb k m) (hb : Below B w w') (hB : B = w.heap.size) : Mp w' mb k m := by
  subst hB
  exact h.keep fun b hm => hb.block b (h.lt hm).1
/-- What may be matched: sound, and all that patterns go on to. -/
structure Lik (F G : Ns) (q : Path) (X : List Path) (P : List UInt8 → Prop) (m : List UInt8 → Option Nat) : Prop where
  sound : ∀ k cb, m k = some cb → (F (q ++ [k])).map (·.b) = some cb
  all : ∀ k y, F (q ++ [k]) = some y → ((∃ x ∈ X, G (x ++ [k]) ≠ none) ∨ P k) → m k = some y.b
theorem Lik.put {F G : Ns} {q : Path} {X : List Path} {P P' : List UInt8 → Prop} {m : List UInt8 → Option Nat} (h : Lik F G q X P m) {k : List UInt8} {cb : Nat} (hk : (F (q ++ [k])).map (·.b) = some cb) (hP : ∀ a, P' a → a = k ∨ P a) : Lik F G q X P' (setM m k (some cb)) := by
  refine ⟨fun a c hc => ?_, fun a y hy hp => ?_⟩
  · unfold setM at hc
    by_cases e : a = k
    · subst e; rw [if_pos rfl] at hc; rw [← hc]; exact hk
    · rw [if_neg e] at hc; exact h.sound a c hc
  · unfold setM
    by_cases e : a = k
    · subst e
      rw [if_pos rfl, ← hk, hy]; rfl
    · rw [if_neg e]
      exact h.all a y hy (hp.imp_right fun h1 => (hP a h1).elim (fun e2 => absurd e2 e) (fun h => h))
theorem Lik.skip {F G : Ns} {q : Path} {X : List Path} {P P' : List UInt8 → Prop} {m : List UInt8 → Option Nat} (h : Lik F G q X P m) {k : List UInt8} (hk : F (q ++ [k]) = none) (hP : ∀ a, P' a → a = k ∨ P a) : Lik F G q X P' m :=
  ⟨h.sound, fun a y hy hp => h.all a y hy (hp.imp_right fun h1 => (hP a h1).elim (fun e2 => by subst e2; rw [hk] at hy; cases hy) (fun h => h))⟩
section
variable {w : World} {ops : Array Oper} {rest : List Oper} {o : Oper} {a : Act} {Q : Exit → Act → World → Prop}
theorem wpList_store_mp (hg : o.guard = none) (m x v : Operand) (hop : o.op = Op.mapUpdate 46 m x v) (b k id : Nat) (mf : List UInt8 → Option Nat) (n : List UInt8) (hm : a.eval m = .map (some b)) (h : Mp w (some b) k mf) (hk : k < maxLen) (hx : a.eval x = .string ⟨n.toArray⟩) (hn : n.length ≤ 1048576) (hv : a.eval v = .pointer (some ⟨id, 0, none⟩))
    (hK : ∀ w', Mp w' (some b) (k + 1) (setM mf n (some id)) → w.mapTurned w' b → wpList Tryz.prog ops Q rest (a.put o.dst undef) w') : wpList Tryz.prog ops Q (o :: rest) a w := by
  refine wpList_plain hg fun K' hK' => ?_
  obtain ⟨w', hrun, h1, h2⟩ := h.store hk hn id
  unfold Oper.wp
  simp [execOp, hop, hm, hx, hv, hrun, Result.andThen]
  exact hK' _ _ (hK w' h1 h2)
end
end Tr

set_option maxRecDepth 100000 in
set_option maxHeartbeats 2000000 in
theorem likely_some {w : World} {T0 : TypeId} {x0 : Value} {c : Nat} {F : Tr.Ns} (hT : Tr.Tree w T0 x0 c F) {q : Tr.Path} {n : Tr.Nd} (hn : F q = some n) (pv : Value) (A : Option Addr) (cn cap : Nat) (h0 : 0 < cn) :
    Calls Tryz.prog 46 #[.pointer (some ⟨n.b, 0, none⟩), pv, .slice A cn cap] w fun e w' => e = .returned (.map n.mb) ∧ Below w.heap.size w w' := by
  obtain ⟨c0, _, _⟩ := hT.cell hn
  have h0' : (0 : Int) < (cn : Int) := by omega
  clear hT hn
  generalize n.mb = mb at *
  generalize n.b = nb at *
  go_enter Tryz.func46, Tryz.ntmps46
  go_wp2_with fail
  go_ret
  exact ⟨rfl, Below.refl _ _⟩

set_option maxRecDepth 100000 in
set_option maxHeartbeats 2000000 in
theorem likely_few {w : World} {T0 T1 : TypeId} {x0 x1 : Value} {c c2 : Nat} {F G : Tr.Ns} (hT : Tr.Tree w T0 x0 c F) (hc9 : c ≤ 1099511627776) {q : Tr.Path} {n : Tr.Nd} (hn : F q = some n) (hG : Tr.Tree w T1 x1 c2 G) (X : List Tr.Path) (A B : Option Addr) (cap cap2 : Nat) (hr : Rd w (fun _ => True) A (Tr.pvs G X)) (hXd : ∀ x ∈ X, G x ≠ none) (hX9 : X.length ≤ 1099511627776) :
    Calls Tryz.prog 46 #[.pointer (some ⟨n.b, 0, none⟩), .slice A X.length cap, .slice B 0 cap2] w fun e w' => ∃ mb m, e = .returned (.map (some mb)) ∧ w.heap.size ≤ mb ∧ Tr.Mp w' (some mb) c m ∧ Tr.Lik F G q X (fun _ => False) m ∧ Below w.heap.size w w' := by
  have hmm := @run_makeMap Tryz.prog
  have HT := Lib.hid hT
  have HG := Lib.hid hG
  have HR := Lib.hid hr
  have HXn : Hid (∀ k (h : k < X.length), ∃ n, G X[k] = some n) := Lib.hid fun k h => Option.ne_none_iff_exists'.1 (hXd _ (List.getElem_mem h))
  have HLk : Hid (∀ k W, Below w.heap.size w W → k.length ≤ 1048576 → (Instr.lookup 46 (.map n.mb) (.string ⟨k.toArray⟩) false).run Tryz.prog W = .ok (Tr.ptr ((F (q ++ [k])).map (·.b))) W) := Lib.hid fun k W h hk => (hT.below h).look hn hk
  have HCt : Hid (∀ W, Below w.heap.size w W → W.cell? ⟨n.b, 0, none⟩ = some (.map n.mb)) := Lib.hid fun W h => ((hT.below h).cell hn).1
  have HMs : Hid (∀ W, Below w.heap.size w W → Tr.Mp W n.mb c (fun k => (F (q ++ [k])).map (·.b))) := Lib.hid fun W h => (hT.below h).map _ _ hn
  have HKey : Hid (∀ x k, G (x ++ [k]) ≠ none → k.length ≤ 1048576) := Lib.hid hG.key
  have hln : (X.length : Int) ≤ 1099511627776 := by omega
  have H0 : Hid (Tr.Mp (w.alloc (.map #[] 0)) (some w.heap.size) c (fun _ => none)) := Lib.hid ((Tr.Mp.made w).mono (Nat.zero_le c))
  have HS0 : Hid (Tr.Lik F G q (X.take 0) (fun _ => False) (fun _ => none)) := Lib.hid ⟨fun _ _ h => (by cases h), fun _ _ _ h => by simp at h⟩
  have HB0 : Hid (Below w.heap.size w (w.alloc (.map #[] 0))) := Lib.hid ((Below.refl _ _).alloc (Nat.le_refl _) _)
  obtain ⟨fm, hfm⟩ : ∃ fm, fm = w.heap.size := ⟨_, rfl⟩
  have hfl : w.heap.size ≤ fm := by omega
  clear hT hn hG hr hXd hX9
  generalize n.mb = mb at *
  generalize n.b = nb at *
  go_enter Tryz.func46, Tryz.ntmps46
  go_wp2_with fail
  rw [← hfm] at H0
  rw [← hfm]
  clear hfm
  go_loopw [22] (fun i wr => ∃ (k : Nat) (m : List UInt8 → Option Nat), k ≤ X.length ∧ i = .int .i64 k ∧ Hid (Tr.Mp wr (some fm) c m) ∧ Hid (Tr.Lik F G q (X.take k) (fun _ => False) m) ∧ Hid (Below w.heap.size w wr)) (fun i _ => X.length - (intOf i).toNat)
  case atStart => exact ⟨0, _, Nat.zero_le _, rfl, H0, HS0, HB0⟩
  case round =>
    obtain ⟨k, m, hk, rfl, HMp, HL, HB⟩ := hrel
    have hk0 : (0 : Int) ≤ (k : Int) := by omega
    by_cases hlt : k < X.length
    · obtain ⟨lb, lo, rfl, hlb, _, hx⟩ := HR.out.lit k (by rw [Tr.pvs_len]; exact hlt)
      obtain ⟨y, hy⟩ := HXn.out k hlt
      have ec := (HB.out.cell (p := ⟨lb, lo + k, none⟩) hlb).trans (hx k _ (Tr.pvs_get G X k hlt))
      rw [Tr.pv_of hy] at ec
      have hkl : (k : Int) < (X.length : Int) := by omega
      have hc0 := ((HG.out.below HB.out).cell hy).1
      have HMy := Lib.hid ((HG.out.below HB.out).map _ _ hy)
      have HMl : Hid (∀ b, y.mb = some b → b < w.heap.size) := Lib.hid fun b hb => ((HG.out.map _ _ hy).lt hb).1
      clear hx
      have HSt : Hid (Tr.Lik F G q (X.take k) (fun a => G (X[k] ++ [a]) ≠ none ∧ ((G (X[k] ++ [a])).map (·.b)).isSome = false) m) := Lib.hid ⟨HL.out.sound, fun a z hz hp => HL.out.all a z hz (hp.imp_right fun h => by
        obtain ⟨h1, h2⟩ := h
        cases e : G (X[k] ++ [a]) with
        | none => exact absurd e h1
        | some n => rw [e] at h2; cases h2)⟩
      have HDone : Hid (∀ (left : List UInt8 → Bool) (m : List UInt8 → Option Nat), Tr.Lik F G q (X.take k) (fun a => G (X[k] ++ [a]) ≠ none ∧ left a = false) m → (∀ a, left a = false) → Tr.Lik F G q (X.take (k + 1)) (fun _ => False) m) := Lib.hid fun left m h hl => ⟨h.sound, fun a z hz hp => h.all a z hz (by
        rcases hp with ⟨x, hx, hg⟩ | hp
        · rw [List.take_succ_eq_append_getElem hlt, List.mem_append, List.mem_singleton] at hx
          rcases hx with hx | hx
          · exact .inl ⟨x, hx, hg⟩
          · subst hx; exact .inr ⟨hg, hl a⟩
        · exact hp.elim)⟩
      clear HL hy
      generalize X[k] = x at *
      generalize y.mb = mb2 at *
      generalize y.b = yb at *
      generalize X.take k = Xk at *
      go_wp2_with (first
        | (at_range; refine wpList_range_mp rfl _ rfl mb2 c2 _ rfl HMy.out ?_; intro w1 cnt1 hrg1 hg1 hs1; have HRg1 := Lib.hid hrg1; have HB1 : Hid (Below w.heap.size w w1) := Lib.hid (HB.out.grown hg1 HB.out.size (fun j hj => by cases hj)); have HM1 : Hid (Tr.Mp w1 (some fm) c m) := Lib.hid (HMp.out.keep fun b hb => hg1.block b (HMp.out.lt hb).1 (by simp)); clear hrg1)
        | go_in)
      have hro : w.heap.size ≤ wr.heap.size := HB.out.size
      clear HMp HMy hg1 hs1 hc0 ec HB
      generalize wr.heap.size = r at *
      go_frame
      go_loopw [11] (fun _ wq => ∃ (m : List UInt8 → Option Nat) (left : List UInt8 → Bool) (cnt : Nat), Hid (Tr.Rgs wq mb2 r c2 (fun a => (G (x ++ [a])).map (·.b)) left cnt) ∧ Hid (Tr.Mp wq (some fm) c m) ∧ Hid (Tr.Lik F G q Xk (fun a => G (x ++ [a]) ≠ none ∧ left a = false) m) ∧ Hid (Below w.heap.size w wq)) (fun _ wq => Tr.rgLeft wq mb2 r)
      case atStart => exact ⟨m, _, _, HRg1, HM1, HSt, HB1⟩
      case round =>
        obtain ⟨m, left, cnt, HRg, HMq, HLq, HBq⟩ := hrel
        clear HRg1 HM1 HSt HB1
        have hbs := HBq.out.size
        go_wp2_with (first
          | (at_next; refine wpList_next_mp rfl _ rfl mb2 r c2 _ left cnt rfl HRg.out ?_ ?_)
          | go_in)
        · intro hl0
          have HWn := Lib.hid (HDone.out left m HLq.out hl0)
          clear hl0
          go_wp2_with fail
          go_roundw
          case rel => exact ⟨k + 1, m, by omega, by go_num, HMq, HWn, HBq⟩
          case measure => simp [intOf]; omega
        · intro a cb w2 cnt2 hla y hy hyb hrg2 hlt2 hg2 hs2 hen
          have hfa : G (x ++ [a]) ≠ none := by rw [hy]; simp
          have hal := HKey.out x a hfa
          have HB2 : Hid (Below w.heap.size w w2) := Lib.hid (HBq.out.grown hg2 hbs (fun j hj => by cases hj; exact hro))
          have HRg2 := Lib.hid hrg2
          have HM2 : Hid (Tr.Mp w2 (some fm) c m) := Lib.hid (HMq.out.keep fun b hb => hg2.block b (HMq.out.lt hb).1 (fun e => by
            obtain ⟨_, es, cl, hbb⟩ := HMq.out.lt hb
            obtain ⟨_, x1, x2, x3, x4, hri⟩ := HRg.out.lt
            have e1 : b = r := by simpa using e
            rw [e1, hri] at hbb
            cases hbb))
          have hc2 := HCt.out w2 HB2.out
          have hlk := HLk.out a w2 HB2.out hal
          have HLt : Hid (Tr.rgLeft w2 mb2 r < Tr.rgLeft wr mb2 r) := Lib.hid hlt2
          have hPP : ∀ b, (G (x ++ [b]) ≠ none ∧ (left b && !decide (b = a)) = false) → b = a ∨ (G (x ++ [b]) ≠ none ∧ left b = false) := fun b hb => by
            by_cases e : b = a
            · exact .inl e
            · refine .inr ⟨hb.1, ?_⟩
              simpa [e] using hb.2
          have hbs2 := HB2.out.size
          have hcl : c < maxLen := by unfold maxLen; omega
          cases hF : F (q ++ [a]) with
          | none =>
            have HLs := Lib.hid (HLq.out.skip hF hPP)
            rw [hF] at hlk
            simp only [Option.map_none, Tr.ptr] at hlk
            clear hrg2 hlt2 hla hfa hy hyb hF hPP
            go_wp2_with fail
            go_roundw
            case rel => exact ⟨m, _, _, HRg2, HM2, HLs, HB2⟩
            case measure => exact HLt.out
          | some z =>
            have HLp := Lib.hid (HLq.out.put (k := a) (cb := z.b) (by rw [hF]; rfl) hPP)
            have HMsh : Hid (∀ W, Below w.heap.size w W → Tr.Mp W (some fm) (c + 1) (Tr.setM m a (some z.b)) → Tr.Mp W (some fm) c (Tr.setM m a (some z.b))) := Lib.hid fun W hW h => h.shrink (HMs.out W hW) fun x hx => by
              obtain ⟨cb, hcb⟩ := Option.ne_none_iff_exists'.1 hx
              rw [HLp.out.sound x cb hcb]; simp
            rw [hF] at hlk
            simp only [Option.map_some, Tr.ptr] at hlk
            clear hrg2 hlt2 hla hfa hy hyb hF hPP
            generalize z.b = zb at *
            go_wp2_with (first
              | (at_mapUpdate; refine Tr.wpList_store_mp rfl _ _ _ rfl fm c zb m a rfl HM2.out hcl rfl hal rfl ?_; intro w3 hm3 ht3; obtain ⟨hk3, hs3⟩ := Tr.turned_kp ht3; have hB3 := HB2.out.trans (hk3.below hbs2 fun i hi e => by omega); have HB3 := Lib.hid hB3; have HM3 := Lib.hid (HMsh.out w3 hB3 hm3); have HRg3 := Lib.hid (HRg2.out.kept (hk3.block r HRg2.out.lt.1 (fun e => (by
                  obtain ⟨_, es, cl, hbb⟩ := HM2.out.lt (b := fm) rfl
                  obtain ⟨_, x1, x2, x3, x4, hri⟩ := HRg2.out.lt
                  have e1 : r = fm := e
                  rw [e1, hbb] at hri
                  cases hri))) fun b hb => hk3.block b (HRg2.out.mp.lt hb).1 fun e => by have := HMl.out b hb; have e1 : b = fm := e; omega); clear hm3 ht3 hk3 hs3)
              | go_in)
            go_frame
            have HM4 : Hid (Tr.rgLeft w3 mb2 r < Tr.rgLeft wr mb2 r) := Lib.hid (by rw [HRg2.out.same_left HRg3.out]; exact HLt.out)
            go_roundw
            case rel => exact ⟨_, _, _, HRg3, HM3, HLp, HB3⟩
            case measure => exact HM4.out
    · obtain rfl : k = X.length := by omega
      rw [List.take_length] at HL
      go_wp2
      go_ret
      exact ⟨fm, m, rfl, hfl, HMp.out, HL.out, HB.out⟩
end Go.Proofs.YtfmbbhcjnidcbaaGreatDoor
