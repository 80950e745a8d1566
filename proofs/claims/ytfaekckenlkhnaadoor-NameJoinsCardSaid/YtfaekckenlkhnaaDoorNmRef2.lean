/-
  CONTRACTS: chapter 8's own answers (ref8): Is, Join, turn, File, Of, Node.
-/
import Derived.Test.YtfaekckenlkhnaaDoorNmRef
import Derived.RegionTactic
import Derived.Lib.BufferMore
import Derived.Lib.ConvBytes
namespace Go.Proofs.YtfaekckenlkhnaaDoor
open Go.RowKit
open Me


theorem OwnS.form {base : Nat} {w : World} {v : Value} {l : List (List UInt8)} (h : OwnS base w v l) (hl : 0 < l.length) : ∃ g c, v = .slice (some ⟨g, 0, none⟩) l.length c := by
  rcases h.2 with ⟨_, h0⟩ | ⟨g', cap, cur, rfl, _⟩
  · omega
  · exact ⟨_, _, rfl⟩
theorem Nm.is_nil : Nm.is [] = false := by decide

set_option maxHeartbeats 2000000 in
theorem refIs_any (s : List UInt8) (hl : s.length ≤ 4294967270) (w : World) :
    Calls Tryd.prog 9 #[.string ⟨s.toArray⟩] w fun e w' => e = .returned (.bool (Nm.is s)) ∧ Below w.heap.size w w' := by
  have hs : (⟨s.toArray⟩ : ByteArray).size = s.length := by show s.toArray.size = _; simp
  by_cases h0 : s.length < 1
  · have h0' : (s.length : Int) < 1 := by omega
    have HQ : Hid (Nm.is s = false) := Lib.hid (by rw [List.eq_nil_of_length_eq_zero (show s.length = 0 by omega)]; exact Nm.is_nil)
    generalize Nm.is s = R at *
    clear h0
    go_enter Tryd.func9, Tryd.ntmps9
    go_wp2_with fail
    go_ret
    exact ⟨Nm.ret_bool HQ.out.symm, Below.refl _ _⟩
  · have h0' : ¬ (s.length : Int) < 1 := by omega
    by_cases h2 : 200 < s.length
    · have h2' : (200 : Int) < (s.length : Int) := by omega
      have HQ := Lib.hid (Nm.is_long h2)
      generalize Nm.is s = R at *
      clear h0 h2
      go_enter Tryd.func9, Tryd.ntmps9
      go_wp2_with fail
      go_ret
      exact ⟨Nm.ret_bool HQ.out.symm, Below.refl _ _⟩
    · have h2' : ¬ (200 : Int) < (s.length : Int) := by omega
      have H1 := Lib.hid (refParts_any s hl w)
      have HG := Lib.hid (@Nm.is_good s (by omega))
      have HBd := Lib.hid (fun k (h : k < (Nm.pt s).length) (hc : Nm.okP (Nm.pt s)[k] = false) => Nm.is_bad h hc)
      have HL := Lib.hid (fun k (h : k < (Nm.pt s).length) => Nat.le_trans (Nm.pt_part_len s _ (List.getElem_mem h)) hl)
      have hLn : ((Nm.pt s).length : Int) ≤ 4294967281 := by have := Nm.pt_len s; omega
      have hpos : 0 < (Nm.pt s).length := List.length_pos_iff.2 (Nm.pt_ne s)
      clear h0 h2
      generalize Nm.is s = R at *
      generalize Nm.pt s = L at *
      go_enter Tryd.func9, Tryd.ntmps9
      go_wp2_with (go_at_call 11; go_must (refine (H1.out).mono ?_; rintro e w1 ⟨v, rfl, ho, hb⟩; obtain ⟨g, c, rfl⟩ := ho.form hpos))
      have HO := Lib.hid ho
      have HB := Lib.hid hb
      have hlt1 := ho.lt.2
      clear ho hb
      go_loop [4] (fun i => ∃ k : Nat, k ≤ L.length ∧ i = .int .i64 k ∧ Hid (∀ j (h : j < L.length), j < k → Nm.okP L[j] = true)) (fun i => L.length - (intOf i).toNat)
      case atStart => exact ⟨0, Nat.zero_le _, rfl, Lib.hid fun j _ h => absurd h (by omega)⟩
      case round =>
        obtain ⟨k, hk, rfl, HD⟩ := hrel
        by_cases hlt : k < L.length
        · have ec := HO.out.cell k hlt
          have hkl : (k : Int) < (L.length : Int) := by omega
          have hk0 : (0 : Int) ≤ (k : Int) := by omega
          have HC0 := Lib.hid (HBd.out k hlt)
          have HDn : Hid (Nm.okP L[k] = true → ∀ j (h : j < L.length), j < k + 1 → Nm.okP L[j] = true) := Lib.hid fun hc j h hj => by
            by_cases e : j = k
            · subst e; exact hc
            · exact HD.out j h (by omega)
          have hpl := HL.out k hlt
          generalize L[k] = p at *
          have hps : (⟨p.toArray⟩ : ByteArray).size = p.length := by show p.toArray.size = _; simp
          by_cases hp0 : p = []
          · have HC := Lib.hid (HC0.out (by rw [hp0]; rfl))
            subst hp0
            go_wp2_with fail
            go_ret
            exact ⟨Nm.ret_bool HC.out.symm, HB.out⟩
          · have hpe : (p == []) = false := by simpa using hp0
            go_wp2_with fail
            go_loop [5] (fun i => ∃ q : Nat, q ≤ p.length ∧ i = .int .i64 q ∧ Hid ((p.take q).all Nm.okB = true)) (fun i => p.length - (intOf i).toNat)
            case atStart => exact ⟨0, Nat.zero_le _, rfl, Lib.hid rfl⟩
            case round =>
              obtain ⟨q, hq, rfl, HQ⟩ := hrel
              by_cases hqt : q < p.length
              · have hn := Lib.hid (Nm.all_take p q hqt)
                have hql : (q : Int) < (p.length : Int) := by omega
                have hq0 : (0 : Int) ≤ (q : Int) := by omega
                have hx : (⟨p.toArray⟩ : ByteArray)[q]'hqt = p[q] := rfl
                cases hc : Nm.okB p[q]
                · have HCf := Lib.hid (HC0.out (Nm.okP_bad (Nm.all_false hqt hc)))
                  have HDg : Hid (∀ W, Calls Tryd.prog 24 #[.int .u8 ((⟨p.toArray⟩ : ByteArray)[q]'hqt).toNat] W fun e w' => e = .returned (.bool false) ∧ w' = W) := Lib.hid fun W => by
                    have := refByte_any p[q] W
                    rw [hc] at this
                    exact this
                  clear hx hc
                  go_wp2_with (go_at_call 24; go_must (refine (HDg.out _).mono ?_; rintro e w' ⟨rfl, rfl⟩))
                  go_ret
                  exact ⟨Nm.ret_bool HCf.out.symm, HB.out⟩
                · have HDg : Hid (∀ W, Calls Tryd.prog 24 #[.int .u8 ((⟨p.toArray⟩ : ByteArray)[q]'hqt).toNat] W fun e w' => e = .returned (.bool true) ∧ w' = W) := Lib.hid fun W => by
                    have := refByte_any p[q] W
                    rw [hc] at this
                    exact this
                  have hn2 : Hid ((p.take (q + 1)).all Nm.okB = true) := Lib.hid (by rw [hn.out, HQ.out, hc]; rfl)
                  clear hx hc
                  go_wp2_with (go_at_call 24; go_must (refine (HDg.out _).mono ?_; rintro e w' ⟨rfl, rfl⟩))
                  go_round
                  case rel => exact ⟨q + 1, by omega, by go_num, hn2⟩
                  case measure => simp [intOf]; omega
              · obtain rfl : q = p.length := by omega
                rw [List.take_length] at HQ
                have HE := Lib.hid (HDn.out (by rw [Nm.okP_good HQ.out]; cases p with
                  | nil => exact absurd rfl hp0
                  | cons a b => rfl))
                go_wp2_with fail
                go_round
                case rel => exact ⟨k + 1, by omega, by go_num, HE⟩
                case measure => simp [intOf]; omega
        · obtain rfl : k = L.length := by omega
          have HE : Hid (R = decide ((L.length : Int) ≤ 20)) := Lib.hid (by rw [HG.out fun j h => HD.out j h h]; congr 1; apply propext; omega)
          go_wp2
          go_ret
          exact ⟨Nm.ret_bool HE.out.symm, HB.out⟩

theorem catB (a b : List UInt8) : (⟨a.toArray⟩ : ByteArray) ++ ⟨b.toArray⟩ = ⟨(a ++ b).toArray⟩ := by
  apply ByteArray.ext
  rw [ByteArray.data_append]
  simp

set_option maxHeartbeats 1000000 in
theorem refJoin_any (l : List (List UInt8)) (A : Option Addr) (c : Nat) (w : World) (h : Rd w (fun _ => True) A (byS l)) (hj : (Nm.jn l).length ≤ 4294967280) (hn : l.length ≤ 4294967280) :
    Calls Tryd.prog 16 #[.slice A l.length c] w fun e w' => e = .returned (.string ⟨(Nm.jn l).toArray⟩) ∧ w' = w := by
  have HR := Lib.hid h
  have HJ := Lib.hid (fun k (h : k < l.length) => Nm.jn_take l k h)
  have HJL := Lib.hid (fun k (h : k ≤ l.length) => Nat.le_trans (Nm.jn_take_len l k h) hj)
  have HJ0 := Lib.hid (show Nm.jn (l.take 0) = [] from rfl)
  have HJN : Hid (Nm.jn (l.take l.length) = Nm.jn l) := Lib.hid (by rw [List.take_length])
  clear h hj
  generalize hJf : (fun k => Nm.jn (l.take k)) = J at *
  have hJe : ∀ k, Nm.jn (l.take k) = J k := fun k => by rw [← hJf]
  simp only [hJe] at HJ HJL HJ0 HJN
  clear hJe hJf
  generalize Nm.jn l = R at *
  go_enter Tryd.func16, Tryd.ntmps16
  go_wp2_with fail
  go_loop [3, 4] (fun x i => ∃ k : Nat, k ≤ l.length ∧ i = .int .i64 k ∧ x = .string ⟨(J k).toArray⟩) (fun _ i => l.length - (intOf i).toNat)
  case atStart => exact ⟨0, Nat.zero_le _, rfl, by rw [HJ0.out]⟩
  case round =>
    obtain ⟨k, hk, rfl, rfl⟩ := hrel
    by_cases hlt : k < l.length
    · obtain ⟨lb, lo, rfl, hlb, _, hx⟩ := HR.out.lit k (by rw [byS_len]; omega)
      have ec := hx k _ (byS_get l k hlt)
      clear hx
      have hkl : (k : Int) < (l.length : Int) := by omega
      have hk0 : (0 : Int) ≤ (k : Int) := by omega
      have HJk := Lib.hid (HJ.out k hlt)
      have HL1 := Lib.hid (HJL.out (k + 1) (by omega))
      generalize l[k] = p at *
      generalize hJk : J k = jk at *
      by_cases hkp : 0 < k
      · have hkp' : (0 : Int) < (k : Int) := by omega
        have HJk2 : Hid (J (k + 1) = (jk ++ [46]) ++ p) := Lib.hid (by rw [HJk.out, if_pos hkp, List.append_assoc])
        have hc1 : (⟨jk.toArray⟩ : ByteArray) ++ ⟨#[46]⟩ = ⟨(jk ++ [46]).toArray⟩ := catB jk [46]
        obtain ⟨jd, hjd⟩ : ∃ jd, jd = jk ++ [46] := ⟨_, rfl⟩
        rw [← hjd] at hc1 HJk2
        have hc2 := catB jd p
        rw [← HJk2.out] at hc2
        have HLj : Hid (jd.length = jk.length + 1 ∧ jd.length + p.length ≤ 4294967280) := Lib.hid (by
          have h1 := HL1.out
          rw [HJk2.out, List.length_append] at h1
          refine ⟨by rw [hjd]; simp, h1⟩)
        have hz1 : ¬ 9223372036854775807 < jk.length + 1 := by have := HLj.out; omega
        have hz2 : ¬ 9223372036854775807 < jd.length + p.length := by have := HLj.out; omega
        clear hjd
        generalize hJ1 : J (k + 1) = jn1 at *
        have HJ1 := Lib.hid hJ1
        clear hJ1
        go_wp2_with fail
        go_round
        case rel => exact ⟨k + 1, by omega, by go_num, by rw [HJ1.out]⟩
        case measure => simp [intOf]; omega
      · obtain rfl : k = 0 := by omega
        rw [Nat.add_zero] at ec
        have HJk2 : Hid (J (0 + 1) = jk ++ p) := Lib.hid (by rw [HJk.out]; rfl)
        have hc2 := catB jk p
        rw [← HJk2.out] at hc2
        have hz2 : ¬ 9223372036854775807 < jk.length + p.length := by
          have h1 := HL1.out
          rw [HJk2.out, List.length_append] at h1
          omega
        generalize hJ1 : J (0 + 1) = jn1 at *
        have HJ1 := Lib.hid hJ1
        clear hJ1 hkp
        go_wp2_with fail
        go_round
        case rel => exact ⟨0 + 1, by omega, by go_num, by rw [HJ1.out]⟩
        case measure => simp [intOf]; omega
    · obtain rfl : k = l.length := by omega
      rw [HJN.out]
      go_wp2
      go_ret
      exact ⟨rfl, rfl⟩

/-- A row of bytes that a conversion laid. -/
def Bx (w : World) (b : Nat) (l : List UInt8) : Prop := ∃ cs f g, w.heap[b]? = some (.cells cs 5 (f, g)) ∧ l.length ≤ f ∧ ∀ j (h : j < l.length), cs[j]? = some (.int .u8 (l[j].toNat : Int))
theorem Bx.cell {w : World} {b : Nat} {l : List UInt8} (h : Bx w b l) (j : Nat) (hj : j < l.length) : w.cell? ⟨b, j, none⟩ = some (.int .u8 (l[j].toNat : Int)) := by
  obtain ⟨cs, f, g, h1, _, h3⟩ := h
  rw [cell_of_row w b j cs _ _ h1, h3 j hj]
theorem Bx.frozen {w : World} {b : Nat} {l : List UInt8} (h : Bx w b l) (j : Nat) (hj : j < l.length) : w.frozen? ⟨b, j, none⟩ = false := by
  obtain ⟨cs, f, g, h1, h2, _⟩ := h
  simp only [World.frozen?, h1]
  simp; omega
theorem Bx.lt {w : World} {b : Nat} {l : List UInt8} (h : Bx w b l) : b < w.heap.size := by
  obtain ⟨cs, f, g, h1, _⟩ := h
  exact (Array.getElem?_eq_some_iff.1 h1).1
theorem Bx.set {w : World} {b : Nat} {l : List UInt8} (h : Bx w b l) (k : Nat) (c : UInt8) : Bx (w.setCell ⟨b, k, none⟩ (.int .u8 (c.toNat : Int))) b (l.set k c) := by
  obtain ⟨cs, f, g, h1, h2, h3⟩ := h
  refine ⟨cs.setIfInBounds k (.int .u8 (c.toNat : Int)), f, g, Lib.heap_setCell_same h1 _, by simpa using h2, fun j hj => ?_⟩
  have hj' : j < l.length := by simpa using hj
  rw [Array.getElem?_setIfInBounds, List.getElem_set]
  have hlt : j < cs.size := (Array.getElem?_eq_some_iff.1 (h3 j hj')).1
  by_cases e : k = j
  · subst e; rw [if_pos rfl, if_pos hlt, if_pos rfl]
  · rw [if_neg e, if_neg e, h3 j hj']
theorem conv_bytes (l : List UInt8) (w : World) : ∃ c W', (convert 9 38 (.string ⟨l.toArray⟩)).run Tryd.prog w = .ok (.slice (some ⟨w.heap.size, 0, none⟩) l.length c) W' ∧ Bx W' w.heap.size l ∧ Below w.heap.size w W' := by
  have hs : (⟨l.toArray⟩ : ByteArray).size = l.length := by show l.toArray.size = _; simp
  have h := Lib.run_convert_string_bytes (P := Tryd.prog) w 9 38 5 ⟨l.toArray⟩ Tryd.underlying9 Tryd.underlying38 Tryd.underlying5
  rw [hs] at h
  refine ⟨_, _, h, ⟨_, _, _, Lib.bytesWorld_at_new _ _ _, ?_, fun j hj => ?_⟩, ⟨rfl, rfl, rfl, by rw [Lib.bytesWorld_size]; omega, fun k hk => Lib.bytesWorld_at_old w _ _ k hk⟩⟩
  · unfold Lib.bytesCells; simp
  · unfold Lib.bytesCells
    rw [Array.getElem?_append_left (by simpa using hj)]
    simp [hj]
theorem set_same {α : Type} (l : List α) (k : Nat) (h : k < l.length) : l.set k l[k] = l := by
  apply List.ext_getElem?
  intro j
  rw [List.getElem?_set]
  by_cases e : k = j
  · subst e; rw [if_pos rfl, if_pos h, List.getElem?_eq_getElem h]
  · rw [if_neg e]
theorem Nm.turn_at (a c : UInt8) (s : List UInt8) (k : Nat) (h : k < s.length) : (turn a c (s.take k) ++ s.drop k).set k (if s[k] = a then c else s[k]) = turn a c (s.take (k + 1)) ++ s.drop (k + 1) := by
  unfold turn
  have hl : ((s.take k).map fun b => if b = a then c else b).length = k := by simp; omega
  rw [List.set_append_right _ _ (by omega), hl, Nat.sub_self, List.take_succ_eq_append_getElem h, List.map_append, List.drop_eq_getElem_cons h, List.append_assoc]
  rfl
theorem Nm.turn_get (a c : UInt8) (s : List UInt8) (k : Nat) (h : k < s.length) (h2 : k < (turn a c (s.take k) ++ s.drop k).length) : (turn a c (s.take k) ++ s.drop k)[k] = s[k] := by
  have hl : (turn a c (s.take k)).length = k := by rw [turn_len, List.length_take]; omega
  rw [List.getElem_append_right (by omega), List.getElem_drop]
  congr 1
  omega

set_option maxHeartbeats 1000000 in
theorem refTurn_any (s : List UInt8) (a c : UInt8) (hl : s.length ≤ 4294967280) (w : World) :
    Calls Tryd.prog 32 #[.string ⟨s.toArray⟩, .int .u8 (a.toNat : Int), .int .u8 (c.toNat : Int)] w fun e w' => e = .returned (.string ⟨(Nm.turn a c s).toArray⟩) ∧ Below w.heap.size w w' := by
  obtain ⟨cp, W1, hcv, hx, hb⟩ := conv_bytes s w
  have HX := Lib.hid hx
  have HB := Lib.hid hb
  have hlt1 := hx.lt
  clear hx hb
  have HN : Hid (Nm.turn a c (s.take s.length) ++ s.drop s.length = Nm.turn a c s) := Lib.hid (by simp)
  have HBC : Hid (∀ W, Bx W w.heap.size (Nm.turn a c s) → (convert 38 9 (.slice (some ⟨w.heap.size, 0, none⟩) s.length cp)).run Tryd.prog W = .ok (.string ⟨(Nm.turn a c s).toArray⟩) W) := Lib.hid fun W h => by
    have := run_convert_bytes_back (P := Tryd.prog) W 38 9 5 ⟨w.heap.size, 0, none⟩ cp (Nm.turn a c s) Tryd.underlying38 Tryd.underlying5 Tryd.underlying9 fun j hj => by rw [Addr.add_lit, Nat.zero_add]; exact h.cell j hj
    rw [Nm.turn_len] at this
    exact this
  go_enter Tryd.func32, Tryd.ntmps32
  go_wp2_with fail
  go_loopw [8] (fun i wr => ∃ k : Nat, k ≤ s.length ∧ i = .int .i64 k ∧ Hid (Bx wr w.heap.size (Nm.turn a c (s.take k) ++ s.drop k)) ∧ Hid (Below w.heap.size w wr)) (fun i _ => s.length - (intOf i).toNat)
  case atStart => exact ⟨0, Nat.zero_le _, rfl, by simpa [Nm.turn] using HX, HB⟩
  case round =>
    obtain ⟨k, hk, rfl, HXr, HBr⟩ := hrel
    by_cases hlt : k < s.length
    · have hkl : (k : Int) < (s.length : Int) := by omega
      have hk0 : (0 : Int) ≤ (k : Int) := by omega
      have hln : k < (Nm.turn a c (s.take k) ++ s.drop k).length := by rw [List.length_append, Nm.turn_len, List.length_take, List.length_drop]; omega
      have ec := HXr.out.cell k hln
      rw [Nm.turn_get a c s k hlt hln] at ec
      have ef := HXr.out.frozen k hln
      have hst := Nm.turn_at a c s k hlt
      by_cases he : s[k] = a
      · rw [if_pos he] at hst
        have HXn : Hid (Bx (wr.setCell ⟨w.heap.size, k, none⟩ (.int .u8 (c.toNat : Int))) w.heap.size (Nm.turn a c (s.take (k + 1)) ++ s.drop (k + 1))) := Lib.hid (by rw [← hst]; exact HXr.out.set k c)
        have hq : s[k].toNat = a.toNat := by rw [he]
        clear hst he hln
        generalize s[k].toNat = sk at *
        generalize a.toNat = an at *
        generalize c.toNat = cn at *
        subst hq
        go_wp2_with fail
        go_roundw
        case rel => exact ⟨k + 1, by omega, by go_num, HXn, Lib.hid (HBr.out.setCell (Nat.le_refl _) _)⟩
        case measure => simp [intOf]; omega
      · rw [if_neg he] at hst
        have hself := set_same (Nm.turn a c (s.take k) ++ s.drop k) k hln
        rw [Nm.turn_get a c s k hlt hln] at hself
        have HXn : Hid (Bx wr w.heap.size (Nm.turn a c (s.take (k + 1)) ++ s.drop (k + 1))) := Lib.hid (by rw [← hst, hself]; exact HXr.out)
        have hq : ¬ s[k].toNat = a.toNat := fun e => he (UInt8.toNat_inj.1 e)
        clear hst he hln hself
        generalize s[k].toNat = sk at *
        generalize a.toNat = an at *
        go_wp2_with fail
        go_roundw
        case rel => exact ⟨k + 1, by omega, by go_num, HXn, HBr⟩
        case measure => simp [intOf]; omega
    · obtain rfl : k = s.length := by omega
      rw [HN.out] at HXr
      have hcv2 := HBC.out wr HXr.out
      go_wp2
      go_ret
      exact ⟨rfl, HBr.out⟩

set_option maxHeartbeats 1000000 in
theorem refFile_any (s : List UInt8) (hl : s.length ≤ 4294967270) (w : World) :
    Calls Tryd.prog 20 #[.string ⟨s.toArray⟩] w fun e w' => e = .returned (.string ⟨(Nm.fl s).toArray⟩) ∧ Below w.heap.size w w' := by
  have HT := Lib.hid (refTurn_any s 46 47 (by omega) w)
  have hc : (⟨(Nm.turn 46 47 s).toArray⟩ : ByteArray) ++ ⟨#[46, 119, 115, 112]⟩ = ⟨(Nm.fl s).toArray⟩ := catB (Nm.turn 46 47 s) Nm.wsp
  have hz : ¬ 9223372036854775807 < (Nm.turn 46 47 s).length + 4 := by rw [Nm.turn_len]; omega
  generalize Nm.fl s = R at *
  generalize Nm.turn 46 47 s = x at *
  go_enter Tryd.func20, Tryd.ntmps20
  go_wp2_with (go_at_call 32; go_must (refine (HT.out).mono ?_; rintro e w1 ⟨rfl, hb1⟩))
  go_ret
  exact ⟨rfl, hb1⟩

/-- What a text ends in, and what stands ahead of it. -/
theorem cutEnd (f : List UInt8) (k : Nat) : (⟨f.toArray⟩ : ByteArray).extract k f.length = ⟨(f.drop k).toArray⟩ := by
  rw [Nm.cutB, List.take_of_length_le (by rw [List.length_drop]; omega)]
theorem cutHead (f : List UInt8) (k : Nat) : (⟨f.toArray⟩ : ByteArray).extract 0 k = ⟨(f.take k).toArray⟩ := by
  rw [Nm.cutB, Nat.sub_zero, List.drop_zero]

set_option maxHeartbeats 1000000 in
theorem refOf_any (f : List UInt8) (hl : f.length ≤ 4294967270) (w : World) :
    Calls Tryd.prog 18 #[.string ⟨f.toArray⟩] w fun e w' => e = strBool (Nm.fOf f) (Nm.fOk f) ∧ Below w.heap.size w w' := by
  have hs : (⟨f.toArray⟩ : ByteArray).size = f.length := by show f.toArray.size = _; simp
  by_cases h4 : f.length < 4
  · have hn : (f.length : Int) - 4 < 0 := by omega
    have h1 : Nm.ends f = false := by unfold Nm.ends; rw [decide_eq_false (by omega)]; rfl
    have H1 : Hid (Nm.fOk f = false) := Lib.hid (by unfold Nm.fOk; rw [h1]; rfl)
    have H2 : Hid (Nm.fOf f = []) := Lib.hid (by unfold Nm.fOf; rw [H1.out]; rfl)
    clear h1 h4
    go_enter Tryd.func18, Tryd.ntmps18
    go_wp2_with fail
    ((try simp only [Exit.inBlock, Exit.then]); refine bodyPost_ret (results_tmp2 rfl _ _ _) rfl ?_)
    exact ⟨strBool_eq H2.out.symm H1.out.symm, Below.refl _ _⟩
  · obtain ⟨k, hk⟩ : ∃ k, f.length = k + 4 := ⟨f.length - 4, by omega⟩
    have hk4 : (f.length : Int) - 4 = (k : Int) := by omega
    have hst : Nm.stem f = f.take k := by unfold Nm.stem; rw [hk, Nat.add_sub_cancel]
    have hen : Nm.ends f = (f.drop k == Nm.wsp) := by unfold Nm.ends; rw [decide_eq_true (by omega), hk, Nat.add_sub_cancel]; rfl
    have hce := cutEnd f k
    have hch := cutHead f k
    have hk0 : (0 : Int) ≤ (k : Int) := by omega
    have hkl : (k : Int) ≤ (f.length : Int) := by omega
    cases he : (f.drop k == Nm.wsp)
    · have H1 : Hid (Nm.fOk f = false) := Lib.hid (by unfold Nm.fOk; rw [hen, he]; rfl)
      have H2 : Hid (Nm.fOf f = []) := Lib.hid (by unfold Nm.fOf; rw [H1.out]; rfl)
      have he2 : (f.drop k == [46, 119, 115, 112]) = false := he
      clear he hst hen h4 hk
      generalize f.drop k = p at *
      generalize f.take k = q at *
      go_enter Tryd.func18, Tryd.ntmps18
      go_wp2_with fail
      ((try simp only [Exit.inBlock, Exit.then]); refine bodyPost_ret (results_tmp2 rfl _ _ _) rfl ?_)
      exact ⟨strBool_eq H2.out.symm H1.out.symm, Below.refl _ _⟩
    · have hends : Nm.ends f = true := by rw [hen, he]
      have he2 : (f.drop k == [46, 119, 115, 112]) = true := he
      have hxl : (Nm.turn 47 46 (f.take k)).length ≤ 4294967266 := by rw [Nm.turn_len, List.length_take]; omega
      have HT := Lib.hid (refTurn_any (f.take k) 47 46 (by rw [List.length_take]; omega) w)
      have HI := Lib.hid (refIs_any (Nm.turn 47 46 (f.take k)) (by omega))
      have HFl := Lib.hid (refFile_any (Nm.turn 47 46 (f.take k)) (by omega))
      have hbk := Nm.fl_back hends
      rw [hst] at hbk
      have hok : Nm.fOk f = (Nm.noDot (f.take k) && Nm.is (Nm.turn 47 46 (f.take k))) := by unfold Nm.fOk; rw [hends, hst]; rfl
      have hof : Nm.fOf f = if Nm.fOk f then Nm.turn 47 46 (f.take k) else [] := by unfold Nm.fOf; rw [hst]
      cases hi : Nm.is (Nm.turn 47 46 (f.take k))
      · have H1 : Hid (Nm.fOk f = false) := Lib.hid (by rw [hok, hi, Bool.and_false])
        have H2 : Hid (Nm.fOf f = []) := Lib.hid (by rw [hof, H1.out]; rfl)
        rw [hi] at HI
        clear he hst hen h4 hk hbk hok hof hi hends hxl HFl
        generalize f.drop k = p at *
        generalize f.take k = q at *
        generalize Nm.turn 47 46 q = x at *
        go_enter Tryd.func18, Tryd.ntmps18
        go_wp2_with first
          | (go_at_call 32; go_must (refine (HT.out).mono ?_; rintro e w1 ⟨rfl, hb1⟩))
          | (go_at_call 9; go_must (refine (HI.out _).mono ?_; rintro e w2 ⟨rfl, hb2⟩))
        ((try simp only [Exit.inBlock, Exit.then]); refine bodyPost_ret (results_tmp2 rfl _ _ _) rfl ?_)
        exact ⟨strBool_eq H2.out.symm H1.out.symm, hb1.trans (hb2.mono hb1.size)⟩
      · rw [hi] at HI
        rw [hi, Bool.and_true] at hok
        by_cases hd : Nm.noDot (f.take k) = true
        · have hff := hbk.2 hd
          have H1 : Hid (Nm.fOk f = true) := Lib.hid (by rw [hok, hd])
          have H2 : Hid (Nm.fOf f = Nm.turn 47 46 (f.take k)) := Lib.hid (by rw [hof, H1.out]; rfl)
          rw [hff] at HFl
          clear he hst hen h4 hk hbk hok hof hi hends hxl hff hd
          generalize f.drop k = p at *
          generalize f.take k = q at *
          generalize Nm.turn 47 46 q = x at *
          have hself : (f == f) = true := by simp
          go_enter Tryd.func18, Tryd.ntmps18
          go_wp2_with first
            | (go_at_call 32; go_must (refine (HT.out).mono ?_; rintro e w1 ⟨rfl, hb1⟩))
            | (go_at_call 9; go_must (refine (HI.out _).mono ?_; rintro e w2 ⟨rfl, hb2⟩))
            | (go_at_call 20; go_must (refine (HFl.out _).mono ?_; rintro e w3 ⟨rfl, hb3⟩))
          ((try simp only [Exit.inBlock, Exit.then]); refine bodyPost_ret (results_tmp2 rfl _ _ _) rfl ?_)
          exact ⟨strBool_eq H2.out.symm H1.out.symm, hb1.trans ((hb2.mono hb1.size).trans (hb3.mono (Nat.le_trans hb1.size hb2.size)))⟩
        · have hff : ¬ Nm.fl (Nm.turn 47 46 (f.take k)) = f := fun e => hd (hbk.1 e)
          have H1 : Hid (Nm.fOk f = false) := Lib.hid (by rw [hok]; simpa using hd)
          have H2 : Hid (Nm.fOf f = []) := Lib.hid (by rw [hof, H1.out]; rfl)
          have hne : (Nm.fl (Nm.turn 47 46 (f.take k)) == f) = false := by simpa using hff
          clear he hst hen h4 hk hbk hok hof hi hends hxl hff hd
          generalize f.drop k = p at *
          generalize f.take k = q at *
          generalize Nm.turn 47 46 q = x at *
          generalize Nm.fl x = fx at *
          go_enter Tryd.func18, Tryd.ntmps18
          go_wp2_with first
            | (go_at_call 32; go_must (refine (HT.out).mono ?_; rintro e w1 ⟨rfl, hb1⟩))
            | (go_at_call 9; go_must (refine (HI.out _).mono ?_; rintro e w2 ⟨rfl, hb2⟩))
            | (go_at_call 20; go_must (refine (HFl.out _).mono ?_; rintro e w3 ⟨rfl, hb3⟩))
          ((try simp only [Exit.inBlock, Exit.then]); refine bodyPost_ret (results_tmp2 rfl _ _ _) rfl ?_)
          exact ⟨strBool_eq H2.out.symm H1.out.symm, hb1.trans ((hb2.mono hb1.size).trans (hb3.mono (Nat.le_trans hb1.size hb2.size)))⟩

theorem Nm.nd_get (s : List UInt8) (k : Nat) (h : k < (pt s).length) : nd s (k : Int) = (pt s)[k] := by rw [nd_at s k h, rest_at s k h]

set_option maxHeartbeats 1000000 in
theorem refNode_any (s : List UInt8) (hl : s.length ≤ 4294967270) (i : Int) (h0 : -9223372036854775808 ≤ i) (h1 : i ≤ 9223372036854775807) (w : World) :
    Calls Tryd.prog 14 #[.string ⟨s.toArray⟩, .int .i64 i] w fun e w' => e = .returned (.string ⟨(Nm.nd s i).toArray⟩) ∧ Below w.heap.size w w' := by
  have H1 := Lib.hid (refParts_any s hl w)
  have hpos : 0 < (Nm.pt s).length := List.length_pos_iff.2 (Nm.pt_ne s)
  have hNb : ((Nm.pt s).length : Int) ≤ 4294967281 := by have := Nm.pt_len s; omega
  have HFar := Lib.hid (Nm.nd_far s i)
  have HGet := Lib.hid (Nm.nd_get s)
  have HAh := Lib.hid (Nm.nd_ahead s i)
  have HNeg := Lib.hid (Nm.nd_neg s i)
  have HPf : Hid (∀ W e W', (∃ v, e = Ending.returned v ∧ OwnS w.heap.size W' v (Nm.pt s) ∧ Below w.heap.size W W') → ∃ g c, e = .returned (.slice (some ⟨g, 0, none⟩) (Nm.pt s).length c) ∧ g < W'.heap.size ∧ Hid (OwnS w.heap.size W' (.slice (some ⟨g, 0, none⟩) (Nm.pt s).length c) (Nm.pt s)) ∧ Below w.heap.size W W') := Lib.hid fun W e W' ⟨v, e1, ho, hb⟩ => by
    obtain ⟨g, c, rfl⟩ := ho.form hpos
    exact ⟨g, c, e1, ho.lt.2, Lib.hid ho, hb⟩
  by_cases hneg : i < 0
  · by_cases hlow : i + ((Nm.pt s).length : Int) < 0
    · have HR := Lib.hid (HAh.out hlow)
      generalize Nm.nd s i = R at *
      have hcmp : i < -((Nm.pt s).length : Int) := by omega
      clear hlow HAh HNeg HFar HGet
      generalize Nm.pt s = L at *
      go_enter Tryd.func14, Tryd.ntmps14
      go_wp2_with (go_at_call 11; go_must (refine (H1.out).mono ?_; rintro e w1 hh; obtain ⟨g, c, rfl, hg, HO, hb⟩ := HPf.out _ _ _ hh))
      go_ret
      exact ⟨Nm.ret_str HR.out.symm, hb⟩
    · obtain ⟨k, hk⟩ : ∃ k : Nat, i + ((Nm.pt s).length : Int) = (k : Int) := ⟨(i + (Nm.pt s).length).toNat, by omega⟩
      have hkN : k < (Nm.pt s).length := by omega
      have HR : Hid (Nm.nd s i = (Nm.pt s)[k]) := Lib.hid ((HNeg.out hneg (by omega)).trans (by rw [hk]; exact HGet.out k hkN))
      generalize Nm.nd s i = R at *
      have hcmp : ¬ i < -((Nm.pt s).length : Int) := by omega
      have hk0 : (0 : Int) ≤ (k : Int) := by omega
      have hkl : (k : Int) < ((Nm.pt s).length : Int) := by omega
      clear hlow HAh HNeg HFar HGet
      generalize Nm.pt s = L at *
      go_enter Tryd.func14, Tryd.ntmps14
      go_wp2_with (go_at_call 11; go_must (refine (H1.out).mono ?_; rintro e w1 hh; obtain ⟨g, c, rfl, hg, HO, hb⟩ := HPf.out _ _ _ hh; have ec := HO.out.cell k hkN))
      go_ret
      exact ⟨Nm.ret_str HR.out.symm, hb⟩
  · have hneg' : ¬ i < 0 := hneg
    obtain ⟨k, rfl⟩ : ∃ k : Nat, i = (k : Int) := ⟨i.toNat, by omega⟩
    by_cases hfar : ((Nm.pt s).length : Int) ≤ (k : Int)
    · have HR := Lib.hid (HFar.out hfar)
      generalize Nm.nd s (k : Int) = R at *
      clear HAh HNeg HFar HGet
      generalize Nm.pt s = L at *
      go_enter Tryd.func14, Tryd.ntmps14
      go_wp2_with (go_at_call 11; go_must (refine (H1.out).mono ?_; rintro e w1 hh; obtain ⟨g, c, rfl, hg, HO, hb⟩ := HPf.out _ _ _ hh))
      go_ret
      exact ⟨Nm.ret_str HR.out.symm, hb⟩
    · have hkN : k < (Nm.pt s).length := by omega
      have HR := Lib.hid (HGet.out k hkN)
      have hk0 : (0 : Int) ≤ (k : Int) := by omega
      have hkl : (k : Int) < ((Nm.pt s).length : Int) := by omega
      generalize Nm.nd s (k : Int) = R at *
      clear HAh HNeg HFar HGet hneg
      generalize Nm.pt s = L at *
      go_enter Tryd.func14, Tryd.ntmps14
      go_wp2_with (go_at_call 11; go_must (refine (H1.out).mono ?_; rintro e w1 hh; obtain ⟨g, c, rfl, hg, HO, hb⟩ := HPf.out _ _ _ hh; have ec := HO.out.cell k hkN))
      go_ret
      exact ⟨Nm.ret_str HR.out.symm, hb⟩
end Go.Proofs.YtfaekckenlkhnaaDoor
