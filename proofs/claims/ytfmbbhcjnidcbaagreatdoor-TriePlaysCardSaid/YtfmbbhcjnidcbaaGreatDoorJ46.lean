/-
  GlEnds: CONTRACTS: chapter 9: where a group ends, and its texts (the document's own).
  GlAllP: PLAIN: chapter 9: what the document's own Expand gathers.
-/
import Derived.Test.YtfmbbhcjnidcbaaGreatDoorJ34
import Derived.Test.YtfmbbhcjnidcbaaGreatDoorJ11

namespace Go.Proofs.YtfmbbhcjnidcbaaGreatDoor
open Go.RowKit
open Me

namespace Gl
/-- How far the reader of a group has come. -/
structure Nd (s : List UInt8) (i E : Nat) (ts : List (List UInt8)) (j n f : Nat) (D : List (List UInt8)) : Prop where
  hn : 1 ≤ n ∧ n + i ≤ j
  hf : i + 1 + D.length ≤ f ∧ f ≤ j
  hj : j ≤ s.length
  he : ∃ e t, eF n ((s.drop f).take (j - f)) (s.drop j) = some (e, t) ∧ j + e = i + 1 + E ∧ ts = D ++ t
theorem Nd.lt {s : List UInt8} {i E j n f : Nat} {ts D : List (List UInt8)} (h : Nd s i E ts j n f D) : j < s.length := by
  obtain ⟨e, t, he, _⟩ := h.he
  have := h.hj
  rcases Nat.lt_or_ge j s.length with h1 | h1
  · exact h1
  · rw [List.drop_eq_nil_of_le h1] at he
    rw [eF] at he
    cases he
theorem Nd.start {s : List UInt8} {i E : Nat} {ts : List (List UInt8)} (hi : i < s.length) (he : eF 1 [] (s.drop (i + 1)) = some (E, ts)) : Nd s i E ts (i + 1) 1 (i + 1) [] :=
  ⟨⟨Nat.le_refl _, by omega⟩, ⟨by simp, Nat.le_refl _⟩, hi, E, ts, by rw [Nat.sub_self, List.take_zero]; exact he, rfl, rfl⟩
theorem cut_more (s : List UInt8) (f j : Nat) (hf : f ≤ j) (hj : j < s.length) : (s.drop f).take (j + 1 - f) = (s.drop f).take (j - f) ++ [s[j]] := by
  have e : j + 1 - f = j - f + 1 := by omega
  rw [e, List.take_succ_eq_append_getElem (by rw [List.length_drop]; omega)]
  congr 2
  rw [List.getElem_drop]
  congr 1
  omega
theorem map_some {o : Option (Nat × List (List UInt8))} {e : Nat} {t : List (List UInt8)} (h : (o.map fun x => (x.1 + 1, x.2)) = some (e, t)) : ∃ e', o = some (e', t) ∧ e = e' + 1 := by
  cases o with
  | none => cases h
  | some x => cases h; exact ⟨x.1, rfl, rfl⟩
section
variable {s : List UInt8} {i E j n f : Nat} {ts D : List (List UInt8)} (h : Nd s i E ts j n f D)
include h
theorem Nd.open_ (hb : s[j]'h.lt = 123) : Nd s i E ts (j + 1) (n + 1) f D := by
  have hj := h.lt
  obtain ⟨e, t, he, h1, h2⟩ := h.he
  rw [List.drop_eq_getElem_cons hj, eF, if_pos hb, ← cut_more s f j h.hf.2 hj] at he
  obtain ⟨e', he', rfl⟩ := map_some he
  exact ⟨⟨by omega, by have := h.hn.2; omega⟩, ⟨h.hf.1, by have := h.hf.2; omega⟩, hj, e', t, he', by omega, h2⟩
theorem Nd.shut (hb : s[j]'h.lt = 125) (hn : n ≠ 1) : Nd s i E ts (j + 1) (n - 1) f D := by
  have hj := h.lt
  obtain ⟨e, t, he, h1, h2⟩ := h.he
  rw [List.drop_eq_getElem_cons hj, eF, if_neg (by rw [hb]; decide), if_pos hb, if_neg hn, ← cut_more s f j h.hf.2 hj] at he
  obtain ⟨e', he', rfl⟩ := map_some he
  exact ⟨⟨by have := h.hn.1; omega, by have := h.hn.2; omega⟩, ⟨h.hf.1, by have := h.hf.2; omega⟩, hj, e', t, he', by omega, h2⟩
theorem Nd.out_ (hb : s[j]'h.lt = 125) (hn : n = 1) : j = i + 1 + E ∧ ts = D ++ [(s.drop f).take (j - f)] := by
  have hj := h.lt
  obtain ⟨e, t, he, h1, h2⟩ := h.he
  rw [List.drop_eq_getElem_cons hj, eF, if_neg (by rw [hb]; decide), if_pos hb, if_pos hn] at he
  cases he
  exact ⟨h1, h2⟩
theorem Nd.comma (hb : s[j]'h.lt = 44) (hn : n = 1) : Nd s i E ts (j + 1) n (j + 1) (D ++ [(s.drop f).take (j - f)]) := by
  have hj := h.lt
  obtain ⟨e, t, he, h1, h2⟩ := h.he
  rw [List.drop_eq_getElem_cons hj, eF, if_neg (by rw [hb]; decide), if_neg (by rw [hb]; decide), if_pos ⟨hb, hn⟩] at he
  cases ho : eF n [] (s.drop (j + 1)) with
  | none => rw [ho] at he; cases he
  | some x =>
    rw [ho] at he
    cases he
    exact ⟨⟨h.hn.1, by have := h.hn.2; omega⟩, ⟨by have := h.hf; simp; omega, Nat.le_refl _⟩, hj, x.1, x.2, by rw [Nat.sub_self, List.take_zero]; exact ho, by first | omega | (simp at h1; omega), by rw [h2]; simp⟩
theorem Nd.other (h1 : s[j]'h.lt ≠ 123) (h2 : s[j]'h.lt ≠ 125) (h3 : ¬ (s[j]'h.lt = 44 ∧ n = 1)) : Nd s i E ts (j + 1) n f D := by
  have hj := h.lt
  obtain ⟨e, t, he, h4, h5⟩ := h.he
  rw [List.drop_eq_getElem_cons hj, eF, if_neg h1, if_neg h2, if_neg h3, ← cut_more s f j h.hf.2 hj] at he
  obtain ⟨e', he', rfl⟩ := map_some he
  exact ⟨⟨h.hn.1, by have := h.hn.2; omega⟩, ⟨h.hf.1, by have := h.hf.2; omega⟩, hj, e', t, he', by omega, h5⟩
end
end Gl

set_option maxRecDepth 100000 in
set_option maxHeartbeats 2000000 in
theorem ends_any (s : List UInt8) (i E : Nat) (ts : List (List UInt8)) (hl : s.length ≤ 4294967270) (hi : i < s.length) (hb : s[i] = 123) (he : Gl.eF 1 [] (s.drop (i + 1)) = some (E, ts)) (w : World) :
    Calls Tryz.prog 75 #[.string ⟨s.toArray⟩, .int .i64 i] w fun e w' => ∃ v, e = .returned (.tuple #[.int .i64 ((i + 1 + E : Nat) : Int), v]) ∧ OwnS w.heap.size w' v ts ∧ Below w.heap.size w w' := by
  have hs : (⟨s.toArray⟩ : ByteArray).size = s.length := by show s.toArray.size = _; simp
  obtain ⟨i0, hi0, hz0, hz1, hz2⟩ := info_parts strinfoN
  have HI := Lib.hid hi0
  have HZ := Lib.hid (And.intro hz0 (And.intro hz1 hz2))
  clear hi0 hz0 hz1 hz2
  have HSt := Lib.hid (Gl.Nd.start hi he)
  have hi9 : (i : Int) ≤ 4294967270 := by omega
  have hi0 : (0 : Int) ≤ (i : Int) := by omega
  have hsl : (s.length : Int) ≤ 4294967270 := by omega
  have Hb := Lib.hid hb
  clear he hb
  go_enter Tryz.func75, Tryz.ntmps75
  go_wp2_with fail
  go_loopw [6, 7, 8, 9] (fun x y v z wr => ∃ (j n f : Nat) (D : List (List UInt8)), x = .int .i64 n ∧ y = .int .i64 f ∧ z = .int .i64 j ∧ Hid ((j = i ∧ n = 0 ∧ f = i + 1 ∧ D = []) ∨ Gl.Nd s i E ts j n f D) ∧ Hid (OwnS w.heap.size wr v D) ∧ Hid (Below w.heap.size w wr)) (fun _ _ _ z _ => s.length + 1 - (intOf z).toNat)
  case atStart => exact ⟨i, 0, i + 1, [], rfl, by go_num, rfl, Lib.hid (.inl ⟨rfl, rfl, rfl, rfl⟩), Lib.hid (OwnS.nil _ _), Lib.hid (Below.refl _ _)⟩
  case round =>
    obtain ⟨j, n, f, D, rfl, rfl, rfl, HD, HO, HB⟩ := hrel
    obtain ⟨A, c, rfl⟩ := HO.out.slice
    rcases HD.out with ⟨rfl, rfl, rfl, rfl⟩ | hD
    · have hjl : (j : Int) < (s.length : Int) := by omega
      have e1 : ((((⟨s.toArray⟩ : ByteArray)[j]'hi).toNat : Int) == 123) = true := by rw [show ((⟨s.toArray⟩ : ByteArray)[j]'hi) = s[j] from rfl, Hb.out]; rfl
      have e0 : ((((⟨s.toArray⟩ : ByteArray)[j]'hi).toNat) == 123) = true := by rw [show ((⟨s.toArray⟩ : ByteArray)[j]'hi) = s[j] from rfl, Hb.out]; rfl
      clear HD
      go_wp2_with fail
      go_roundw
      case rel => exact ⟨j + 1, 1, j + 1, [], by go_num, by go_num, by go_num, Lib.hid (.inr HSt.out), HO, HB⟩
      case measure => simp [intOf]; omega
    have HN := Lib.hid hD
    have hlt := hD.lt
    have hjl : (j : Int) < (s.length : Int) := by omega
    have hj0 : (0 : Int) ≤ (j : Int) := by omega
    have hn1 := hD.hn.1
    have hn9 : (n : Int) ≤ 4294967270 := by have := hD.hn.2; omega
    have hf9 : (f : Int) ≤ (j : Int) := by have := hD.hf.2; omega
    have hf0 : (0 : Int) ≤ (f : Int) := by omega
    have hDl : D.length ≤ 4294967270 := by have := hD.hf; omega
    have hws := HB.out.size
    have hcut := Nm.cutB s f j
    have e1 : ((((⟨s.toArray⟩ : ByteArray)[j]'hlt).toNat : Int) == 123) = decide (s[j] = 123) := Gl.byteEq s[j] 123
    have e2 : ((((⟨s.toArray⟩ : ByteArray)[j]'hlt).toNat : Int) == 125) = decide (s[j] = 125) := Gl.byteEq s[j] 125
    have e3 : ((((⟨s.toArray⟩ : ByteArray)[j]'hlt).toNat : Int) == 44) = decide (s[j] = 44) := Gl.byteEq s[j] 44
    clear HD HSt Hb
    by_cases b1 : s[j] = 123
    · rw [decide_eq_true b1] at e1
      have HNn := Lib.hid (hD.open_ b1)
      clear e2 e3 b1 hD hcut
      go_wp2_with fail
      go_roundw
      case rel => exact ⟨j + 1, n + 1, f, D, by go_num, rfl, by go_num, Lib.hid (.inr HNn.out), HO, HB⟩
      case measure => simp [intOf]; omega
    rw [decide_eq_false b1] at e1
    by_cases b2 : s[j] = 125
    · rw [decide_eq_true b2] at e2
      by_cases hn : n = 1
      · obtain ⟨q1, q2⟩ := hD.out_ b2 hn
        have HQ1 := Lib.hid q1
        have HQ2 := Lib.hid q2
        have hn' : ((n : Int) == 1) = true := by simp; omega
        clear e3 b1 b2 hD q1 q2
        generalize (s.drop f).take (j - f) = seg at *
        have HO1 : Hid (OwnS w.heap.size (wr.alloc (.cells #[.string ⟨seg.toArray⟩] 9)) (.slice A D.length c) D) := Lib.hid (HO.out.below ((Below.refl _ _).alloc (Nat.le_refl _) _))
        have HFr := Lib.hid (Rd.fresh wr [.string ⟨seg.toArray⟩] 9 wr.heap.size rfl)
        subst hn
        go_wp2_with (at_builtin; refine wpList_app _ rfl (.tmp 36) (.tmp 41) 27 rfl w.heap.size 9 i0 (.string ⟨#[]⟩) 1 16 Tryz.underlying27 HI.out HZ.out.1 HZ.out.2.1 HZ.out.2.2 rfl (by decide) (.slice A D.length c) D.length (byS D) rfl HO1.out (fun b => b = wr.heap.size) (some ⟨wr.heap.size, 0, none⟩) 1 1 [.string ⟨seg.toArray⟩] rfl rfl HFr.out (by intro u hu; simp at hu; subst hu; rfl) (by unfold maxLen; omega) (by omega) (by simp; omega) ?_; intro v2 w2 hown2 hg2 hat2 hnil2)
        have HNo := Lib.hid (OwnS.more hown2)
        have HB2 := Lib.hid ((HB.out.alloc hws _).grown hg2 (by simp; omega) fun g e => (World.ownsRow.lt HO1.out g e).1)
        clear hown2 hg2 hat2 hnil2
        ((try simp only [Exit.inBlock, Exit.then]); refine bodyPost_ret (results_tmp2 rfl _ _ _) rfl ?_)
        refine ⟨v2, ?_, ?_, HB2.out⟩
        · rw [← HQ1.out]; rfl
        · rw [HQ2.out]; exact HNo.out
      · have HNn := Lib.hid (hD.shut b2 hn)
        have hn' : ((n : Int) == 1) = false := by simp; omega
        clear e3 b1 b2 hD hcut
        go_wp2_with fail
        go_roundw
        case rel => exact ⟨j + 1, n - 1, f, D, by go_num, rfl, by go_num, Lib.hid (.inr HNn.out), HO, HB⟩
        case measure => simp [intOf]; omega
    rw [decide_eq_false b2] at e2
    by_cases b3 : s[j] = 44
    · rw [decide_eq_true b3] at e3
      by_cases hn : n = 1
      · have HNn := Lib.hid (hD.comma b3 hn)
        have hn' : ((n : Int) == 1) = true := by simp; omega
        clear b1 b2 b3 hD
        generalize (s.drop f).take (j - f) = seg at *
        have HO1 : Hid (OwnS w.heap.size (wr.alloc (.cells #[.string ⟨seg.toArray⟩] 9)) (.slice A D.length c) D) := Lib.hid (HO.out.below ((Below.refl _ _).alloc (Nat.le_refl _) _))
        have HFr := Lib.hid (Rd.fresh wr [.string ⟨seg.toArray⟩] 9 wr.heap.size rfl)
        subst hn
        go_wp2_with (at_builtin; refine wpList_app _ rfl (.tmp 59) (.tmp 64) 27 rfl w.heap.size 9 i0 (.string ⟨#[]⟩) 1 16 Tryz.underlying27 HI.out HZ.out.1 HZ.out.2.1 HZ.out.2.2 rfl (by decide) (.slice A D.length c) D.length (byS D) rfl HO1.out (fun b => b = wr.heap.size) (some ⟨wr.heap.size, 0, none⟩) 1 1 [.string ⟨seg.toArray⟩] rfl rfl HFr.out (by intro u hu; simp at hu; subst hu; rfl) (by unfold maxLen; omega) (by omega) (by simp; omega) ?_; intro v2 w2 hown2 hg2 hat2 hnil2)
        have HNo := Lib.hid (OwnS.more hown2)
        have HB2 := Lib.hid ((HB.out.alloc hws _).grown hg2 (by simp; omega) fun g e => (World.ownsRow.lt HO1.out g e).1)
        clear hown2 hg2 hat2 hnil2
        go_roundw
        case rel => exact ⟨j + 1, 1, j + 1, D ++ [seg], by go_num, by go_num, by go_num, Lib.hid (.inr HNn.out), HNo, HB2⟩
        case measure => simp [intOf]; omega
      · have HNn := Lib.hid (hD.other b1 b2 (fun h => hn h.2))
        have hn' : ((n : Int) == 1) = false := by simp; omega
        clear b1 b2 b3 hD hcut
        go_wp2_with fail
        go_roundw
        case rel => exact ⟨j + 1, n, f, D, rfl, rfl, by go_num, Lib.hid (.inr HNn.out), HO, HB⟩
        case measure => simp [intOf]; omega
    · rw [decide_eq_false b3] at e3
      have HNn := Lib.hid (hD.other b1 b2 (fun h => b3 h.1))
      clear b1 b2 b3 hD hcut
      go_wp2_with fail
      go_roundw
      case rel => exact ⟨j + 1, n, f, D, rfl, rfl, by go_num, Lib.hid (.inr HNn.out), HO, HB⟩
      case measure => simp [intOf]; omega
end Go.Proofs.YtfmbbhcjnidcbaaGreatDoor

namespace Go.Proofs.YtfmbbhcjnidcbaaGreatDoor
open Go.RowKit
open Me

namespace Gl
def acc (p : List UInt8) (F R : List (List UInt8)) : List (List UInt8) := comb [p] (comb F R)
theorem acc_nil (p : List UInt8) (R : List (List UInt8)) : acc p [] R = [] := rfl
theorem acc_len (p : List UInt8) (F R : List (List UInt8)) : (acc p F R).length = F.length * R.length := by
  unfold acc; rw [comb_len, comb_len]; simp
theorem acc_append (p : List UInt8) (F M R : List (List UInt8)) : acc p (F ++ M) R = acc p F R ++ acc p M R := by
  unfold acc; rw [comb_append, comb_pre, comb_pre, comb_pre, List.map_append]
theorem acc_one (p x : List UInt8) (R : List (List UInt8)) : acc p [x] R = R.map fun b => p ++ x ++ b := by
  unfold acc; rw [comb_pre, comb_pre, List.map_map]; congr 1; funext b; simp
theorem acc_take (p : List UInt8) (M R : List (List UInt8)) (j : Nat) (h : j < M.length) : acc p (M.take (j + 1)) R = acc p (M.take j) R ++ R.map fun b => p ++ M[j] ++ b := by
  rw [List.take_succ_eq_append_getElem h, acc_append, acc_one]
theorem map_take (f : List UInt8 → List UInt8) (R : List (List UInt8)) (h : Nat) (hh : h < R.length) : (R.take (h + 1)).map f = (R.take h).map f ++ [f R[h]] := by
  rw [List.take_succ_eq_append_getElem hh, List.map_append]; rfl
def flat (ps : List (List UInt8 × List (List UInt8))) (k : Nat) : List (List UInt8) := ((ps.take k).map (·.2)).flatten
theorem flat_succ (ps : List (List UInt8 × List (List UInt8))) (k : Nat) (h : k < ps.length) : flat ps (k + 1) = flat ps k ++ ps[k].2 := by
  unfold flat
  rw [List.take_succ_eq_append_getElem h, List.map_append, List.flatten_append]
  congr 1
  simp
theorem flat_all (ps : List (List UInt8 × List (List UInt8))) : flat ps ps.length = (ps.map (·.2)).flatten := by unfold flat; rw [List.take_length]
theorem flat_le (ps : List (List UInt8 × List (List UInt8))) (k : Nat) : (flat ps k).length ≤ ((ps.map (·.2)).flatten).length := by
  have : (ps.map (·.2)).flatten = flat ps k ++ ((ps.drop k).map (·.2)).flatten := by
    unfold flat
    rw [← List.flatten_append, ← List.map_append, List.take_append_drop]
  rw [this, List.length_append]; omega
theorem eF_len : ∀ (l : List UInt8) (n : Nat) (cur : List UInt8) (e : Nat) (t : List (List UInt8)), eF n cur l = some (e, t) → t.length ≤ l.length := by
  intro l
  induction l with
  | nil => intro n cur e t h; rw [eF] at h; cases h
  | cons b r ih =>
    intro n cur e t h
    rw [eF] at h
    by_cases h1 : b = 123
    · rw [if_pos h1] at h
      obtain ⟨e', h, _⟩ := map_some h
      exact Nat.le_succ_of_le (ih _ _ _ _ h)
    rw [if_neg h1] at h
    by_cases h2 : b = 125
    · rw [if_pos h2] at h
      by_cases h3 : n = 1
      · rw [if_pos h3] at h
        cases h
        simp
      · rw [if_neg h3] at h
        obtain ⟨e', h, _⟩ := map_some h
        exact Nat.le_succ_of_le (ih _ _ _ _ h)
    rw [if_neg h2] at h
    by_cases h3 : b = 44 ∧ n = 1
    · rw [if_pos h3] at h
      cases ho : eF n [] r with
      | none => rw [ho] at h; cases h
      | some x =>
        rw [ho] at h
        cases h
        exact Nat.succ_le_succ (ih _ _ _ _ ho)
    · rw [if_neg h3] at h
      obtain ⟨e', h, _⟩ := map_some h
      exact Nat.le_succ_of_le (ih _ _ _ _ h)
/-- What it hands back. -/
def GaveA (w : World) (L : List (List UInt8)) (e : Ending) (w' : World) : Prop :=
  ∃ v, e = .returned (.tuple #[v, .bool (decide (L.length ≤ 512))]) ∧ OwnS w.heap.size w' v (if L.length ≤ 512 then L else []) ∧ Below w.heap.size w w'
theorem GaveA.no {w w' : World} {L : List (List UInt8)} (hb : Below w.heap.size w w') (h : 512 < L.length) : GaveA w L (.returned (.tuple #[.slice none 0 0, .bool false])) w' :=
  ⟨_, by rw [decide_eq_false (by omega)], by rw [if_neg (by omega)]; exact OwnS.nil _ _, hb⟩
theorem GaveA.yes {w w' : World} {L : List (List UInt8)} {v : Value} (hb : Below w.heap.size w w') (h : L.length ≤ 512) (ho : OwnS w.heap.size w' v L) : GaveA w L (.returned (.tuple #[v, .bool true])) w' :=
  ⟨v, by rw [decide_eq_true h], by rw [if_pos h]; exact ho, hb⟩
theorem _root_.Go.Proofs.YtfmbbhcjnidcbaaGreatDoor.OwnS.less {a b : Nat} {w : World} {v : Value} {l : List (List UInt8)} (h : OwnS a w v l) (hb : b ≤ a) : OwnS b w v l := ⟨h.1, h.2.imp id fun ⟨g, cap, cur, h1, h2, h3⟩ => ⟨g, cap, cur, h1, Nat.le_trans hb h2, h3⟩⟩
/-- The gathering: its row, and a row that it reads from. -/
structure Gath (w2 : World) (n0 n1 : Nat) (Am : Option Addr) (M : List (List UInt8)) (wz : World) (u : Value) (D : List (List UInt8)) : Prop where
  own : OwnS w2.heap.size wz u D
  bel : Below w2.heap.size w2 wz
  far : ∀ b, u.ownBlock = some b → b < n0 ∨ n1 ≤ b
  size : n1 ≤ wz.heap.size
  rd : Rd wz (fun b => n0 ≤ b ∧ b < n1) Am (byS M)
theorem Gath.push {w2 : World} {n0 n1 : Nat} {Am : Option Addr} {M : List (List UInt8)} {wz wy w' : World} {u u2 : Value} {D : List (List UInt8)} {seg : List UInt8} (h : Gath w2 n0 n1 Am M wz u D)
    (hy : Below wz.heap.size wz wy)
    (hown : w'.ownsRow w2.heap.size 9 1 u2 (D.length + 1) (byS D ++ [.string ⟨seg.toArray⟩])) (hg : wy.grownBy w' u.ownBlock) (hat : u2.ownBlock = u.ownBlock ∨ u2.ownBlock = some wy.heap.size) : Gath w2 n0 n1 Am M w' u2 (D ++ [seg]) := by
  have hs := hy.size
  have hgs := hg.size
  have h2 := h.bel.size
  refine ⟨OwnS.more hown, (h.bel.trans (hy.mono h2)).grown hg (by omega) fun g e => (World.ownsRow.lt h.own g e).1, ?_, by have := h.size; omega, ?_⟩
  · intro b hb
    rcases hat with e | e
    · exact h.far b (by rw [← e]; exact hb)
    · rw [e] at hb
      cases hb
      exact .inr (by have := h.size; omega)
  · refine h.rd.keep (by omega) fun i hi hG => ?_
    have hi2 : i < wy.heap.size := by omega
    rw [hg.block i hi2 (fun e => by
      rcases h.far i e.symm with h3 | h3 <;> omega)]
    exact hy.block i hi
theorem Gath.drew {w2 : World} {n0 n1 : Nat} {Am : Option Addr} {M : List (List UInt8)} {wz : World} {u : Value} {D : List (List UInt8)} (h : Gath w2 n0 n1 Am M wz u D) : Gath w2 n0 n1 Am M wz.drew u D :=
  ⟨h.own.below ((Below.refl _ _).drew), h.bel.drew, h.far, h.size, h.rd.below ((Below.refl _ _).drew)⟩
end Gl
end Go.Proofs.YtfmbbhcjnidcbaaGreatDoor
