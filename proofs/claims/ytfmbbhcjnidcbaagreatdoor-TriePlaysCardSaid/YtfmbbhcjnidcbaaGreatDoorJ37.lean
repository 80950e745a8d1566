/-
  TrMatch: CONTRACTS: package trie: matching: the branches of patterns to which a part of a name leads.
  TrMatchW: CONTRACTS: package trie: matching, the walk.
-/
import Derived.Test.YtfmbbhcjnidcbaaGreatDoorJ36

namespace Go.Proofs.YtfmbbhcjnidcbaaGreatDoor
open Go.RowKit
open Me

namespace Tr
/-- Those that a part leads to: exactly, so far. -/
def mex (G : Ns) (k : List UInt8) (X : List Path) : List Path := X.filterMap fun x => if G (x ++ [k]) ≠ none then some (x ++ [k]) else none
theorem mex_take {G : Ns} {k : List UInt8} {X : List Path} {i : Nat} (h : i < X.length) : mex G k (X.take (i + 1)) = mex G k (X.take i) ++ (if G (X[i] ++ [k]) ≠ none then [X[i] ++ [k]] else []) := by
  unfold mex
  rw [List.take_succ_eq_append_getElem h, List.filterMap_append]
  congr 1
  by_cases e : G (X[i] ++ [k]) ≠ none
  · rw [if_pos e]; simp [e]
  · rw [if_neg e]; simp [e]
/-- .. and by choices. -/
def mwi (k : List UInt8) (C : List (Path × List UInt8)) : List Path := C.filterMap fun p => if Gl.gm p.2 k = true then some (p.1 ++ [p.2]) else none
theorem mwi_take {k : List UInt8} {C : List (Path × List UInt8)} {i : Nat} (h : i < C.length) : mwi k (C.take (i + 1)) = mwi k (C.take i) ++ (if Gl.gm C[i].2 k = true then [C[i].1 ++ [C[i].2]] else []) := by
  unfold mwi
  rw [List.take_succ_eq_append_getElem h, List.filterMap_append]
  congr 1
  by_cases e : Gl.gm C[i].2 k = true
  · rw [if_pos e]; simp [e]
  · rw [if_neg e]; simp [e]
theorem mem_mex {G : Ns} {k : List UInt8} {X : List Path} {y : Path} : y ∈ mex G k X ↔ ∃ x ∈ X, y = x ++ [k] ∧ G (x ++ [k]) ≠ none := by
  unfold mex
  rw [List.mem_filterMap]
  refine exists_congr fun x => and_congr_right fun _ => ?_
  by_cases e : G (x ++ [k]) ≠ none
  · rw [if_pos e]; simp [e, eq_comm]
  · rw [if_neg e]; simp at e; simp [e]
theorem mem_mwi {k : List UInt8} {C : List (Path × List UInt8)} {y : Path} : y ∈ mwi k C ↔ ∃ x a, (x, a) ∈ C ∧ y = x ++ [a] ∧ Gl.gm a k = true := by
  unfold mwi
  rw [List.mem_filterMap]
  constructor
  · rintro ⟨⟨x, a⟩, h1, h2⟩
    by_cases e : Gl.gm a k = true
    · rw [if_pos e] at h2
      exact ⟨x, a, h1, (Option.some.inj h2).symm, e⟩
    · rw [if_neg e] at h2; cases h2
  · rintro ⟨x, a, h1, rfl, e⟩
    exact ⟨(x, a), h1, if_pos e⟩
theorem mex_nodup {G : Ns} {k : List UInt8} : ∀ {X : List Path}, X.Nodup → (mex G k X).Nodup := fun {X} h => by
  unfold mex
  refine List.Pairwise.filterMap _ (fun a a' hne b hb b' hb' e => ?_) h
  by_cases h1 : G (a ++ [k]) ≠ none
  · rw [if_pos h1] at hb
    by_cases h2 : G (a' ++ [k]) ≠ none
    · rw [if_pos h2] at hb'
      obtain rfl := Option.some.inj hb
      obtain rfl := Option.some.inj hb'
      exact hne (snoc_inj e).1
    · rw [if_neg h2] at hb'; cases hb'
  · rw [if_neg h1] at hb; cases hb
theorem mwi_nodup {k : List UInt8} {C : List (Path × List UInt8)} (h : C.Nodup) : (mwi k C).Nodup := by
  unfold mwi
  refine List.Pairwise.filterMap _ (fun a a' hne b hb b' hb' e => ?_) h
  by_cases h1 : Gl.gm a.2 k = true
  · rw [if_pos h1] at hb
    by_cases h2 : Gl.gm a'.2 k = true
    · rw [if_pos h2] at hb'
      obtain rfl := Option.some.inj hb
      obtain rfl := Option.some.inj hb'
      obtain ⟨e1, e2⟩ := snoc_inj e
      exact hne (Prod.ext e1 e2)
    · rw [if_neg h2] at hb'; cases hb'
  · rw [if_neg h1] at hb; cases hb
theorem okP_plain {k : List UInt8} (h : Nm.okP k = true) : k.all Nm.okB = true := by
  unfold Nm.okP at h
  exact (Bool.and_eq_true_iff.1 h).2
theorem plainB_key {a : List UInt8} (hd : Nm.noDot a = true) : Gl.plainB a = a.all Nm.okB := by
  unfold Gl.plainB
  unfold Nm.noDot at hd
  induction a with
  | nil => rfl
  | cons b r ih =>
    rw [List.all_cons] at hd ⊢
    rw [List.all_cons]
    obtain ⟨h1, h2⟩ := Bool.and_eq_true_iff.1 hd
    rw [ih h2, show (b == 46) = false by simpa using h1, Bool.false_or]
/-- What a part of a name leads to. -/
structure Mt (G : Ns) (X : List Path) (k : List UInt8) (Y : List Path) : Prop where
  nodup : Y.Nodup
  mem : ∀ y, y ∈ Y ↔ ∃ x ∈ X, ∃ a, y = x ++ [a] ∧ G (x ++ [a]) ≠ none ∧ Gl.gm a k = true
theorem mt_of {G : Ns} {X : List Path} (hX : X.Nodup) {C : List (Path × List UInt8)} (hW : Wild G X C) {k : List UInt8} (hk : Nm.okP k = true) (hd : ∀ x a, G (x ++ [a]) ≠ none → Nm.noDot a = true) : Mt G X k (mex G k X ++ mwi k C) := by
  have hkp := okP_plain hk
  refine ⟨List.nodup_append.2 ⟨mex_nodup hX, mwi_nodup hW.nodup, fun y hy z hz e => ?_⟩, fun y => ?_⟩
  · subst e
    obtain ⟨x, _, e1, _⟩ := mem_mex.1 hy
    obtain ⟨x', a, h1, e2, _⟩ := mem_mwi.1 hz
    obtain ⟨rfl, rfl⟩ := snoc_inj (e1.symm.trans e2)
    have h3 := ((hW.mem _ _).1 h1).2
    rw [plainB_key (hd _ _ h3.1), hkp] at h3
    cases h3.2
  · rw [List.mem_append, mem_mex, mem_mwi]
    constructor
    · rintro (⟨x, hx, rfl, hf⟩ | ⟨x, a, h1, rfl, hg⟩)
      · exact ⟨x, hx, k, rfl, hf, by rw [Gl.gm_plain k k hkp]; simp⟩
      · obtain ⟨h2, h3, _⟩ := (hW.mem x a).1 h1
        exact ⟨x, h2, a, rfl, h3, hg⟩
    · rintro ⟨x, hx, a, rfl, hf, hg⟩
      cases hp : Gl.plainB a
      · exact .inr ⟨x, a, (hW.mem x a).2 ⟨hx, hf, hp⟩, rfl, hg⟩
      · rw [plainB_key (hd _ _ hf)] at hp
        rw [Gl.gm_plain a k hp] at hg
        have e := of_decide_eq_true hg
        subst e
        exact .inl ⟨x, hx, rfl, hf⟩
end Tr
end Go.Proofs.YtfmbbhcjnidcbaaGreatDoor

namespace Go.Proofs.YtfmbbhcjnidcbaaGreatDoor
open Go.RowKit
open Me

namespace Tr
theorem OwnP.below {base : Nat} {w w' : World} {v : Value} {G : Ns} {X : List Path} (h : OwnP base w v G X) (b : Below w.heap.size w w') : OwnP base w' v G X := owns_below h b rfl
theorem take_len_le {α : Type} (f : α → Option Path) (l : List α) (k : Nat) : ((l.take k).filterMap f).length ≤ l.length := Nat.le_trans (List.length_filterMap_le _ _) (by rw [List.length_take]; omega)
end Tr

set_option maxRecDepth 100000 in
set_option maxHeartbeats 2000000 in
theorem matching_any {w : World} {T0 : TypeId} {x0 : Value} {c : Nat} {G : Tr.Ns} (hT : Tr.Tree w T0 x0 c G) (X : List Tr.Path) (A : Option Addr) (cap : Nat) (hr : Rd w (fun _ => True) A (Tr.pvs G X)) (hXn : ∀ x ∈ X, G x ≠ none) (hX9 : X.length ≤ 1099511627776)
    (C : List (Tr.Path × List UInt8)) (hCn : ∀ x a, (x, a) ∈ C → G (x ++ [a]) ≠ none) (B : Option Addr) (cap2 : Nat) (hr2 : Rd w (fun _ => True) B (Tr.cvs G C)) (hC9 : C.length ≤ 1099511627776) (k : List UInt8) (hk : k.length ≤ 1048576) (hm : Mx w) :
    Calls Tryz.prog 47 #[.slice A X.length cap, .slice B C.length cap2, .string ⟨k.toArray⟩] w fun e w' => ∃ v, e = .returned v ∧ Tr.OwnP w.heap.size w' v G (Tr.mex G k X ++ Tr.mwi k C) ∧ Below w.heap.size w w' := by
  obtain ⟨i0, hi0, hz0, hz1, hz2⟩ := info_parts Tr.branchinfo
  have HI := Lib.hid hi0
  have HZ := Lib.hid (And.intro hz0 (And.intro hz1 hz2))
  have HT := Lib.hid hT
  have HR := Lib.hid hr
  have HR2 := Lib.hid hr2
  have HM : Hid (∀ W, Below w.heap.size w W → Mx W) := Lib.hid fun W h => hm.below h
  have HXn : Hid (∀ k (h : k < X.length), ∃ n, G X[k] = some n) := Lib.hid fun k h => Option.ne_none_iff_exists'.1 (hXn _ (List.getElem_mem h))
  have HCn : Hid (∀ k (h : k < C.length), ∃ n, G (C[k].1 ++ [C[k].2]) = some n ∧ C[k].2.length ≤ 1048576) := Lib.hid fun k h => by
    have h1 := hCn C[k].1 C[k].2 (List.getElem_mem h)
    obtain ⟨n, hn⟩ := Option.ne_none_iff_exists'.1 h1
    exact ⟨n, hn, hT.key _ _ h1⟩
  have HLx : Hid (∀ j, (Tr.mex G k (X.take j)).length ≤ 1099511627776) := Lib.hid fun j => Nat.le_trans (Tr.take_len_le _ X j) hX9
  have HLc : Hid (∀ j, (Tr.mwi k (C.take j)).length ≤ 1099511627776) := Lib.hid fun j => Nat.le_trans (Tr.take_len_le _ C j) hC9
  have HTk : Hid (∀ j (h : j < X.length), Tr.mex G k (X.take (j + 1)) = Tr.mex G k (X.take j) ++ (if G (X[j] ++ [k]) ≠ none then [X[j] ++ [k]] else [])) := Lib.hid fun j h => Tr.mex_take h
  have HCk : Hid (∀ j (h : j < C.length), Tr.mwi k (C.take (j + 1)) = Tr.mwi k (C.take j) ++ (if Gl.gm C[j].2 k = true then [C[j].1 ++ [C[j].2]] else [])) := Lib.hid fun j h => Tr.mwi_take h
  have hln : (X.length : Int) ≤ 1099511627776 := by omega
  have hcn : (C.length : Int) ≤ 1099511627776 := by omega
  have HX0 : Hid (Tr.mex G k (X.take X.length) = Tr.mex G k X) := Lib.hid (by rw [List.take_length])
  have HC0 : Hid (Tr.mwi k (C.take C.length) = Tr.mwi k C) := Lib.hid (by rw [List.take_length])
  clear hT hr hr2 hXn hCn hm hi0 hz0 hz1 hz2
  go_enter Tryz.func47, Tryz.ntmps47
  go_wp2_with fail
  go_loopw [7, 15] (fun lv i wr => ∃ (j : Nat) (v : Value), v = lv ∧ j ≤ X.length ∧ i = .int .i64 j ∧ Hid (Tr.OwnP w.heap.size wr v G (Tr.mex G k (X.take j))) ∧ Hid (Below w.heap.size w wr)) (fun _ i _ => X.length - (intOf i).toNat)
  case atStart => exact ⟨0, _, rfl, Nat.zero_le _, rfl, Lib.hid ⟨rfl, .inl ⟨rfl, rfl⟩⟩, Lib.hid (Below.refl _ _)⟩
  case round =>
    obtain ⟨j, v, rfl, hj, rfl, HO, HB⟩ := hrel
    have hj0 : (0 : Int) ≤ (j : Int) := by omega
    have hbs := HB.out.size
    by_cases hlt : j < X.length
    · obtain ⟨lb, lo, rfl, hlb, _, hx⟩ := HR.out.lit j (by rw [Tr.pvs_len]; exact hlt)
      obtain ⟨n, hn⟩ := HXn.out j hlt
      have ec := (HB.out.cell (p := ⟨lb, lo + j, none⟩) hlb).trans (hx j _ (Tr.pvs_get G X j hlt))
      rw [Tr.pv_of hn] at ec
      have hjl : (j : Int) < (X.length : Int) := by omega
      have hc0 := ((HT.out.below HB.out).cell hn).1
      have hlk := (HT.out.below HB.out).look hn hk
      have hT1 := HTk.out j hlt
      have hLn := HLx.out (j + 1)
      clear hx
      cases e : G (X[j] ++ [k]) with
      | none =>
        rw [e] at hlk hT1
        simp only [Option.map_none, Tr.ptr] at hlk
        rw [if_neg (fun h => h rfl), List.append_nil] at hT1
        have HOn : Hid (Tr.OwnP w.heap.size wr v G (Tr.mex G k (X.take (j + 1)))) := Lib.hid (by rw [hT1]; exact HO.out)
        clear hT1 e hn HO hLn
        generalize n.mb = mb at *
        generalize n.b = nb at *
        go_wp2_with fail
        go_roundw
        case rel => exact ⟨j + 1, v, rfl, by omega, by go_num, HOn, HB⟩
        case measure => simp [intOf]; omega
      | some y =>
        rw [e] at hlk hT1
        simp only [Option.map_some, Tr.ptr] at hlk
        rw [if_pos (by simp)] at hT1
        have hpv : Tr.pv G (X[j] ++ [k]) = .pointer (some ⟨y.b, 0, none⟩) := Tr.pv_of e
        rw [hT1, List.length_append, List.length_singleton] at hLn
        have HOn : Hid (∀ v' W, W.ownsRow w.heap.size 51 1 v' ((Tr.mex G k (X.take j)).length + 1) (Tr.pvs G (Tr.mex G k (X.take j)) ++ [.pointer (some ⟨y.b, 0, none⟩)]) → Tr.OwnP w.heap.size W v' G (Tr.mex G k (X.take (j + 1)))) := Lib.hid fun v' W h => by
          rw [hT1]; unfold Tr.OwnP
          rw [List.length_append, List.length_singleton, Tr.pvs_snoc, hpv]
          exact h
        clear hT1 e hn hpv
        generalize n.mb = mb at *
        generalize n.b = nb at *
        generalize y.b = yb at *
        go_wp2_with first
          | (at_builtin; refine wpList_push _ rfl _ _ 63 rfl w.heap.size 51 i0 _ 1 8 Tryz.underlying63 HI.out HZ.out.1 HZ.out.2.1 HZ.out.2.2 rfl (by decide) v (Tr.mex G k (X.take j)).length (Tr.pvs G (Tr.mex G k (X.take j))) rfl (Tr.owns_below HO.out ((Below.refl _ _).alloc (Nat.le_refl _) _) rfl) ⟨wr.heap.size, 0, none⟩ 1 1 [.pointer (some ⟨yb, 0, none⟩)] rfl rfl (cells_new wr [.pointer (some ⟨yb, 0, none⟩)] 51) (fun u hu => by rw [List.mem_singleton.1 hu]; rfl) (by decide) (by unfold maxLen; omega) (by omega) (by simp; omega) ?_; intro v4 w4 hA4; have HB4 := Lib.hid (Tr.App.below hA4 (HB.out.alloc hbs _) (by simp; omega)); have HO4 := Lib.hid (HOn.out v4 w4 hA4.own); clear hA4)
          | go_in
        go_roundw
        case rel => exact ⟨j + 1, v4, rfl, by omega, by go_num, HO4, HB4⟩
        case measure => simp [intOf]; omega
    · obtain rfl : j = X.length := by omega
      have HOX : Hid (Tr.OwnP w.heap.size wr v G (Tr.mex G k X ++ Tr.mwi k (C.take 0))) := Lib.hid (by rw [← HX0.out, List.take_zero]; show Tr.OwnP _ _ _ _ (_ ++ []); rw [List.append_nil]; exact HO.out)
      have hLX := HLx.out X.length
      rw [HX0.out] at hLX
      clear HO HTk HLx HX0 HXn
      obtain ⟨M, hM⟩ : ∃ M, M = Tr.mex G k X := ⟨_, rfl⟩
      rw [← hM] at HOX hLX
      replace hM := Lib.hid hM
      go_wp2_with fail
      go_loopw [7, 35] (fun lv i wr => ∃ (j : Nat) (v : Value), v = lv ∧ j ≤ C.length ∧ i = .int .i64 j ∧ Hid (Tr.OwnP w.heap.size wr v G (M ++ Tr.mwi k (C.take j))) ∧ Hid (Below w.heap.size w wr)) (fun _ i _ => C.length - (intOf i).toNat)
      case atStart => exact ⟨0, v, rfl, Nat.zero_le _, rfl, HOX, HB⟩
      case round =>
        obtain ⟨j, v, rfl, hj, rfl, HO, HB⟩ := hrel
        have hj0 : (0 : Int) ≤ (j : Int) := by omega
        have hbs := HB.out.size
        by_cases hlt : j < C.length
        · obtain ⟨lb, lo, rfl, hlb, _, hx⟩ := HR2.out.lit (j * 2) (by rw [Tr.cvs_len]; omega)
          obtain ⟨n, hn, hal⟩ := HCn.out j hlt
          have ec := (HB.out.cell (p := ⟨lb, lo + j * 2, none⟩) hlb).trans (hx (j * 2) _ (Tr.cvs_get G C j hlt).1)
          have ec1 := (HB.out.cell (p := ⟨lb, lo + (j * 2 + 1), none⟩) hlb).trans (hx (j * 2 + 1) _ (Tr.cvs_get G C j hlt).2)
          rw [Tr.pv_of hn] at ec
          have ec2 : wr.cell? ⟨lb, lo + j * 2 + 1, none⟩ = some (.string ⟨(C[j].2).toArray⟩) := by rw [← ec1]; congr 2
          have hjl : (j : Int) < (C.length : Int) := by omega
          have hT1 := HCk.out j hlt
          have hLn := HLc.out (j + 1)
          have hpv : Tr.pv G (C[j].1 ++ [C[j].2]) = .pointer (some ⟨n.b, 0, none⟩) := Tr.pv_of hn
          have HMa := Lib.hid (fun W h => match_any C[j].2 k (by omega) (by omega) W (HM.out W h))
          clear hx ec1
          cases e : Gl.gm C[j].2 k
          · rw [e] at hT1 HMa
            rw [if_neg (by simp), List.append_nil] at hT1
            have HOn : Hid (∀ W, Below wr.heap.size wr W → Tr.OwnP w.heap.size W v G (M ++ Tr.mwi k (C.take (j + 1)))) := Lib.hid fun W h => by rw [hT1]; exact HO.out.below h
            clear hT1 hLn hpv e hn HO
            generalize n.b = nb at *
            generalize C[j].2 = a at *
            go_wp2_with (go_at_call 73; go_must (refine (HMa.out _ (HB.out.alloc hbs _)).mono ?_; rintro e w3 ⟨rfl, hb3⟩; have hb3' := ((Below.refl wr.heap.size wr).alloc (Nat.le_refl _) (.cells #[.pointer (some ⟨nb, 0, none⟩), .string ⟨a.toArray⟩] 119)).trans (hb3.mono (by simp)); have HB3 := Lib.hid (HB.out.trans (hb3'.mono hbs)); have HO3 := Lib.hid (HOn.out w3 hb3')))
            go_roundw
            case rel => exact ⟨j + 1, v, rfl, by omega, by go_num, HO3, HB3⟩
            case measure => simp [intOf]; omega
          · rw [e] at hT1 HMa
            rw [if_pos rfl] at hT1
            rw [hT1, List.length_append, List.length_singleton] at hLn
            have HOn : Hid (∀ v' W, W.ownsRow w.heap.size 51 1 v' ((M ++ Tr.mwi k (C.take j)).length + 1) (Tr.pvs G (M ++ Tr.mwi k (C.take j)) ++ [.pointer (some ⟨n.b, 0, none⟩)]) → Tr.OwnP w.heap.size W v' G (M ++ Tr.mwi k (C.take (j + 1)))) := Lib.hid fun v' W h => by
              rw [hT1, ← List.append_assoc]; unfold Tr.OwnP
              rw [List.length_append, List.length_singleton, Tr.pvs_snoc, hpv]
              exact h
            have hlm : (M ++ Tr.mwi k (C.take j)).length + 1 ≤ 2199023255552 := by rw [List.length_append]; omega
            clear hT1 hLn hpv e hn
            generalize n.b = nb at *
            generalize C[j].2 = a at *
            generalize M ++ Tr.mwi k (C.take j) = Mj at *
            go_wp2_with first
              | (go_at_call 73; go_must (refine (HMa.out _ (HB.out.alloc hbs _)).mono ?_; rintro e w3 ⟨rfl, hb3⟩; have hb3' := ((Below.refl wr.heap.size wr).alloc (Nat.le_refl _) (.cells #[.pointer (some ⟨nb, 0, none⟩), .string ⟨a.toArray⟩] 119)).trans (hb3.mono (by simp)); have hB3 := HB.out.trans (hb3'.mono hbs); have hb3s := hB3.size; have hO3 := HO.out.below hb3'; have hcc : w3.cell? ⟨wr.heap.size, 0, none⟩ = some (.pointer (some ⟨nb, 0, none⟩)) := (hb3.cell (p := ⟨wr.heap.size, 0, none⟩) (by simp)).trans (cells_new wr [.pointer (some ⟨nb, 0, none⟩), .string ⟨a.toArray⟩] 119 0 _ rfl)))
              | (at_builtin; refine wpList_push _ rfl _ _ 63 rfl w.heap.size 51 i0 _ 1 8 Tryz.underlying63 HI.out HZ.out.1 HZ.out.2.1 HZ.out.2.2 rfl (by decide) v Mj.length (Tr.pvs G Mj) rfl (Tr.owns_below hO3 ((Below.refl _ _).alloc (Nat.le_refl _) _) rfl) ⟨w3.heap.size, 0, none⟩ 1 1 [.pointer (some ⟨nb, 0, none⟩)] rfl rfl (cells_new w3 [.pointer (some ⟨nb, 0, none⟩)] 51) (fun u hu => by rw [List.mem_singleton.1 hu]; rfl) (by decide) (by unfold maxLen; omega) (by omega) (by simp; omega) ?_; intro v4 w4 hA4; have HB4 := Lib.hid (Tr.App.below hA4 (hB3.alloc hb3s _) (by simp; omega)); have HO4 := Lib.hid (HOn.out v4 w4 hA4.own); clear hA4)
              | go_in
            go_roundw
            case rel => exact ⟨j + 1, v4, rfl, by omega, by go_num, HO4, HB4⟩
            case measure => simp [intOf]; omega
        · obtain rfl : j = C.length := by omega
          rw [HC0.out, hM.out] at HO
          go_wp2
          go_ret
          exact ⟨_, rfl, HO.out, HB.out⟩
end Go.Proofs.YtfmbbhcjnidcbaaGreatDoor
