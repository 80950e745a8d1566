/-
  NmRef2: CONTRACTS: chapter 8's own answers (ref8): Is, Join, turn, File, Of, Node.
  TrLib: CONTRACTS: the library's own functions as package trie calls them: the keys of a map, sorted; a clone of texts; whether a branch of a row ..; append, and the way back.
-/
import Derived.Test.YtiolkiikgjedcaaGreatDoorJ13
import Derived.RegionTactic
import Derived.Lib.BufferMore
import Derived.Lib.ConvBytes
import Derived.Test.YtiolkiikgjedcaaGreatDoorJ9
import Derived.Test.YtiolkiikgjedcaaGreatDoorJ5
import Derived.Test.YtiolkiikgjedcaaGreatDoorJ12

namespace Go.Proofs.YtiolkiikgjedcaaGreatDoor
open Go.RowKit
open Me


theorem OwnS.form {base : Nat} {w : World} {v : Value} {l : List (List UInt8)} (h : OwnS base w v l) (hl : 0 < l.length) : ∃ g c, v = .slice (some ⟨g, 0, none⟩) l.length c := by
  rcases h.2 with ⟨_, h0⟩ | ⟨g', cap, cur, rfl, _⟩
  · omega
  · exact ⟨_, _, rfl⟩
theorem Nm.is_nil : Nm.is [] = false := by decide

set_option maxHeartbeats 2000000 in
theorem refIs_any (s : List UInt8) (hl : s.length ≤ 4294967270) (w : World) :
    Calls Tryz.prog 22 #[.string ⟨s.toArray⟩] w fun e w' => e = .returned (.bool (Nm.is s)) ∧ Below w.heap.size w w' := by
  have hs : (⟨s.toArray⟩ : ByteArray).size = s.length := by show s.toArray.size = _; simp
  by_cases h0 : s.length < 1
  · have h0' : (s.length : Int) < 1 := by omega
    have HQ : Hid (Nm.is s = false) := Lib.hid (by rw [List.eq_nil_of_length_eq_zero (show s.length = 0 by omega)]; exact Nm.is_nil)
    generalize Nm.is s = R at *
    clear h0
    go_enter Tryz.func22, Tryz.ntmps22
    go_wp2_with fail
    go_ret
    exact ⟨Nm.ret_bool HQ.out.symm, Below.refl _ _⟩
  · have h0' : ¬ (s.length : Int) < 1 := by omega
    by_cases h2 : 200 < s.length
    · have h2' : (200 : Int) < (s.length : Int) := by omega
      have HQ := Lib.hid (Nm.is_long h2)
      generalize Nm.is s = R at *
      clear h0 h2
      go_enter Tryz.func22, Tryz.ntmps22
      go_wp2_with fail
      go_ret
      exact ⟨Nm.ret_bool HQ.out.symm, Below.refl _ _⟩
    · have h2' : ¬ (200 : Int) < (s.length : Int) := by omega
      have H1 := Lib.hid (refParts_any s hl w)
      have HG := Lib.hid (@Nm.is_good s (by omega))
      have HBd := Lib.hid (fun k (h : k < (Nm.pt s).length) (hc : Nm.okP (Nm.pt s)[k] = false) => Nm.is_bad h hc)
      have HL := Lib.hid (fun k (h : k < (Nm.pt s).length) => Nat.le_trans (Nm.pt_part_len s _ (List.getElem_mem h)) hl)
      have hLn : ((Nm.pt s).length : Int) ≤ 4294967281 := by have := Nm.pt_len s; omega
      have hpos : 0 < (Nm.pt s).length := List.length_pos_iff.2 (Nm.pt_ne s)
      clear h0 h2
      generalize Nm.is s = R at *
      generalize Nm.pt s = L at *
      go_enter Tryz.func22, Tryz.ntmps22
      go_wp2_with (go_at_call 37; go_must (refine (H1.out).mono ?_; rintro e w1 ⟨v, rfl, ho, hb⟩; obtain ⟨g, c, rfl⟩ := ho.form hpos))
      have HO := Lib.hid ho
      have HB := Lib.hid hb
      have hlt1 := ho.lt.2
      clear ho hb
      go_loop [4] (fun i => ∃ k : Nat, k ≤ L.length ∧ i = .int .i64 k ∧ Hid (∀ j (h : j < L.length), j < k → Nm.okP L[j] = true)) (fun i => L.length - (intOf i).toNat)
      case atStart => exact ⟨0, Nat.zero_le _, rfl, Lib.hid fun j _ h => absurd h (by omega)⟩
      case round =>
        obtain ⟨k, hk, rfl, HD⟩ := hrel
        by_cases hlt : k < L.length
        · have ec := HO.out.cell k hlt
          have hkl : (k : Int) < (L.length : Int) := by omega
          have hk0 : (0 : Int) ≤ (k : Int) := by omega
          have HC0 := Lib.hid (HBd.out k hlt)
          have HDn : Hid (Nm.okP L[k] = true → ∀ j (h : j < L.length), j < k + 1 → Nm.okP L[j] = true) := Lib.hid fun hc j h hj => by
            by_cases e : j = k
            · subst e; exact hc
            · exact HD.out j h (by omega)
          have hpl := HL.out k hlt
          generalize L[k] = p at *
          have hps : (⟨p.toArray⟩ : ByteArray).size = p.length := by show p.toArray.size = _; simp
          by_cases hp0 : p = []
          · have HC := Lib.hid (HC0.out (by rw [hp0]; rfl))
            subst hp0
            go_wp2_with fail
            go_ret
            exact ⟨Nm.ret_bool HC.out.symm, HB.out⟩
          · have hpe : (p == []) = false := by simpa using hp0
            go_wp2_with fail
            go_loop [5] (fun i => ∃ q : Nat, q ≤ p.length ∧ i = .int .i64 q ∧ Hid ((p.take q).all Nm.okB = true)) (fun i => p.length - (intOf i).toNat)
            case atStart => exact ⟨0, Nat.zero_le _, rfl, Lib.hid rfl⟩
            case round =>
              obtain ⟨q, hq, rfl, HQ⟩ := hrel
              by_cases hqt : q < p.length
              · have hn := Lib.hid (Nm.all_take p q hqt)
                have hql : (q : Int) < (p.length : Int) := by omega
                have hq0 : (0 : Int) ≤ (q : Int) := by omega
                have hx : (⟨p.toArray⟩ : ByteArray)[q]'hqt = p[q] := rfl
                cases hc : Nm.okB p[q]
                · have HCf := Lib.hid (HC0.out (Nm.okP_bad (Nm.all_false hqt hc)))
                  have HDg : Hid (∀ W, Calls Tryz.prog 38 #[.int .u8 ((⟨p.toArray⟩ : ByteArray)[q]'hqt).toNat] W fun e w' => e = .returned (.bool false) ∧ w' = W) := Lib.hid fun W => by
                    have := refByte_any p[q] W
                    rw [hc] at this
                    exact this
                  clear hx hc
                  go_wp2_with (go_at_call 38; go_must (refine (HDg.out _).mono ?_; rintro e w' ⟨rfl, rfl⟩))
                  go_ret
                  exact ⟨Nm.ret_bool HCf.out.symm, HB.out⟩
                · have HDg : Hid (∀ W, Calls Tryz.prog 38 #[.int .u8 ((⟨p.toArray⟩ : ByteArray)[q]'hqt).toNat] W fun e w' => e = .returned (.bool true) ∧ w' = W) := Lib.hid fun W => by
                    have := refByte_any p[q] W
                    rw [hc] at this
                    exact this
                  have hn2 : Hid ((p.take (q + 1)).all Nm.okB = true) := Lib.hid (by rw [hn.out, HQ.out, hc]; rfl)
                  clear hx hc
                  go_wp2_with (go_at_call 38; go_must (refine (HDg.out _).mono ?_; rintro e w' ⟨rfl, rfl⟩))
                  go_round
                  case rel => exact ⟨q + 1, by omega, by go_num, hn2⟩
                  case measure => simp [intOf]; omega
              · obtain rfl : q = p.length := by omega
                rw [List.take_length] at HQ
                have HE := Lib.hid (HDn.out (by rw [Nm.okP_good HQ.out]; cases p with
                  | nil => exact absurd rfl hp0
                  | cons a b => rfl))
                go_wp2_with fail
                go_round
                case rel => exact ⟨k + 1, by omega, by go_num, HE⟩
                case measure => simp [intOf]; omega
        · obtain rfl : k = L.length := by omega
          have HE : Hid (R = decide ((L.length : Int) ≤ 20)) := Lib.hid (by rw [HG.out fun j h => HD.out j h h]; congr 1; apply propext; omega)
          go_wp2
          go_ret
          exact ⟨Nm.ret_bool HE.out.symm, HB.out⟩

theorem catB (a b : List UInt8) : (⟨a.toArray⟩ : ByteArray) ++ ⟨b.toArray⟩ = ⟨(a ++ b).toArray⟩ := by
  apply ByteArray.ext
  rw [ByteArray.data_append]
  simp

set_option maxHeartbeats 1000000 in
theorem refJoin_any (l : List (List UInt8)) (A : Option Addr) (c : Nat) (w : World) (h : Rd w (fun _ => True) A (byS l)) (hj : (Nm.jn l).length ≤ 4294967280) (hn : l.length ≤ 4294967280) :
    Calls Tryz.prog 58 #[.slice A l.length c] w fun e w' => e = .returned (.string ⟨(Nm.jn l).toArray⟩) ∧ w' = w := by
  have HR := Lib.hid h
  have HJ := Lib.hid (fun k (h : k < l.length) => Nm.jn_take l k h)
  have HJL := Lib.hid (fun k (h : k ≤ l.length) => Nat.le_trans (Nm.jn_take_len l k h) hj)
  have HJ0 := Lib.hid (show Nm.jn (l.take 0) = [] from rfl)
  have HJN : Hid (Nm.jn (l.take l.length) = Nm.jn l) := Lib.hid (by rw [List.take_length])
  clear h hj
  generalize hJf : (fun k => Nm.jn (l.take k)) = J at *
  have hJe : ∀ k, Nm.jn (l.take k) = J k := fun k => by rw [← hJf]
  simp only [hJe] at HJ HJL HJ0 HJN
  clear hJe hJf
  generalize Nm.jn l = R at *
  go_enter Tryz.func58, Tryz.ntmps58
  go_wp2_with fail
  go_loop [3, 4] (fun x i => ∃ k : Nat, k ≤ l.length ∧ i = .int .i64 k ∧ x = .string ⟨(J k).toArray⟩) (fun _ i => l.length - (intOf i).toNat)
  case atStart => exact ⟨0, Nat.zero_le _, rfl, by rw [HJ0.out]⟩
  case round =>
    obtain ⟨k, hk, rfl, rfl⟩ := hrel
    by_cases hlt : k < l.length
    · obtain ⟨lb, lo, rfl, hlb, _, hx⟩ := HR.out.lit k (by rw [byS_len]; omega)
      have ec := hx k _ (byS_get l k hlt)
      clear hx
      have hkl : (k : Int) < (l.length : Int) := by omega
      have hk0 : (0 : Int) ≤ (k : Int) := by omega
      have HJk := Lib.hid (HJ.out k hlt)
      have HL1 := Lib.hid (HJL.out (k + 1) (by omega))
      generalize l[k] = p at *
      generalize hJk : J k = jk at *
      by_cases hkp : 0 < k
      · have hkp' : (0 : Int) < (k : Int) := by omega
        have HJk2 : Hid (J (k + 1) = (jk ++ [46]) ++ p) := Lib.hid (by rw [HJk.out, if_pos hkp, List.append_assoc])
        have hc1 : (⟨jk.toArray⟩ : ByteArray) ++ ⟨#[46]⟩ = ⟨(jk ++ [46]).toArray⟩ := catB jk [46]
        obtain ⟨jd, hjd⟩ : ∃ jd, jd = jk ++ [46] := ⟨_, rfl⟩
        rw [← hjd] at hc1 HJk2
        have hc2 := catB jd p
        rw [← HJk2.out] at hc2
        have HLj : Hid (jd.length = jk.length + 1 ∧ jd.length + p.length ≤ 4294967280) := Lib.hid (by
          have h1 := HL1.out
          rw [HJk2.out, List.length_append] at h1
          refine ⟨by rw [hjd]; simp, h1⟩)
        have hz1 : ¬ 9223372036854775807 < jk.length + 1 := by have := HLj.out; omega
        have hz2 : ¬ 9223372036854775807 < jd.length + p.length := by have := HLj.out; omega
        clear hjd
        generalize hJ1 : J (k + 1) = jn1 at *
        have HJ1 := Lib.hid hJ1
        clear hJ1
        go_wp2_with fail
        go_round
        case rel => exact ⟨k + 1, by omega, by go_num, by rw [HJ1.out]⟩
        case measure => simp [intOf]; omega
      · obtain rfl : k = 0 := by omega
        rw [Nat.add_zero] at ec
        have HJk2 : Hid (J (0 + 1) = jk ++ p) := Lib.hid (by rw [HJk.out]; rfl)
        have hc2 := catB jk p
        rw [← HJk2.out] at hc2
        have hz2 : ¬ 9223372036854775807 < jk.length + p.length := by
          have h1 := HL1.out
          rw [HJk2.out, List.length_append] at h1
          omega
        generalize hJ1 : J (0 + 1) = jn1 at *
        have HJ1 := Lib.hid hJ1
        clear hJ1 hkp
        go_wp2_with fail
        go_round
        case rel => exact ⟨0 + 1, by omega, by go_num, by rw [HJ1.out]⟩
        case measure => simp [intOf]; omega
    · obtain rfl : k = l.length := by omega
      rw [HJN.out]
      go_wp2
      go_ret
      exact ⟨rfl, rfl⟩

/-- A row of bytes that a conversion laid. -/
def Bx (w : World) (b : Nat) (l : List UInt8) : Prop := ∃ cs f g, w.heap[b]? = some (.cells cs 5 (f, g)) ∧ l.length ≤ f ∧ ∀ j (h : j < l.length), cs[j]? = some (.int .u8 (l[j].toNat : Int))
theorem Bx.cell {w : World} {b : Nat} {l : List UInt8} (h : Bx w b l) (j : Nat) (hj : j < l.length) : w.cell? ⟨b, j, none⟩ = some (.int .u8 (l[j].toNat : Int)) := by
  obtain ⟨cs, f, g, h1, _, h3⟩ := h
  rw [cell_of_row w b j cs _ _ h1, h3 j hj]
theorem Bx.frozen {w : World} {b : Nat} {l : List UInt8} (h : Bx w b l) (j : Nat) (hj : j < l.length) : w.frozen? ⟨b, j, none⟩ = false := by
  obtain ⟨cs, f, g, h1, h2, _⟩ := h
  simp only [World.frozen?, h1]
  simp; omega
theorem Bx.lt {w : World} {b : Nat} {l : List UInt8} (h : Bx w b l) : b < w.heap.size := by
  obtain ⟨cs, f, g, h1, _⟩ := h
  exact (Array.getElem?_eq_some_iff.1 h1).1
theorem Bx.set {w : World} {b : Nat} {l : List UInt8} (h : Bx w b l) (k : Nat) (c : UInt8) : Bx (w.setCell ⟨b, k, none⟩ (.int .u8 (c.toNat : Int))) b (l.set k c) := by
  obtain ⟨cs, f, g, h1, h2, h3⟩ := h
  refine ⟨cs.setIfInBounds k (.int .u8 (c.toNat : Int)), f, g, Lib.heap_setCell_same h1 _, by simpa using h2, fun j hj => ?_⟩
  have hj' : j < l.length := by simpa using hj
  rw [Array.getElem?_setIfInBounds, List.getElem_set]
  have hlt : j < cs.size := (Array.getElem?_eq_some_iff.1 (h3 j hj')).1
  by_cases e : k = j
  · subst e; rw [if_pos rfl, if_pos hlt, if_pos rfl]
  · rw [if_neg e, if_neg e, h3 j hj']
theorem conv_bytes (l : List UInt8) (w : World) : ∃ c W', (convert 9 106 (.string ⟨l.toArray⟩)).run Tryz.prog w = .ok (.slice (some ⟨w.heap.size, 0, none⟩) l.length c) W' ∧ Bx W' w.heap.size l ∧ Below w.heap.size w W' := by
  have hs : (⟨l.toArray⟩ : ByteArray).size = l.length := by show l.toArray.size = _; simp
  have h := Lib.run_convert_string_bytes (P := Tryz.prog) w 9 106 5 ⟨l.toArray⟩ Tryz.underlying9 Tryz.underlying106 Tryz.underlying5
  rw [hs] at h
  refine ⟨_, _, h, ⟨_, _, _, Lib.bytesWorld_at_new _ _ _, ?_, fun j hj => ?_⟩, ⟨rfl, rfl, rfl, by rw [Lib.bytesWorld_size]; omega, fun k hk => Lib.bytesWorld_at_old w _ _ k hk⟩⟩
  · unfold Lib.bytesCells; simp
  · unfold Lib.bytesCells
    rw [Array.getElem?_append_left (by simpa using hj)]
    simp [hj]
theorem set_same {α : Type} (l : List α) (k : Nat) (h : k < l.length) : l.set k l[k] = l := by
  apply List.ext_getElem?
  intro j
  rw [List.getElem?_set]
  by_cases e : k = j
  · subst e; rw [if_pos rfl, if_pos h, List.getElem?_eq_getElem h]
  · rw [if_neg e]
theorem Nm.turn_at (a c : UInt8) (s : List UInt8) (k : Nat) (h : k < s.length) : (turn a c (s.take k) ++ s.drop k).set k (if s[k] = a then c else s[k]) = turn a c (s.take (k + 1)) ++ s.drop (k + 1) := by
  unfold turn
  have hl : ((s.take k).map fun b => if b = a then c else b).length = k := by simp; omega
  rw [List.set_append_right _ _ (by omega), hl, Nat.sub_self, List.take_succ_eq_append_getElem h, List.map_append, List.drop_eq_getElem_cons h, List.append_assoc]
  rfl
theorem Nm.turn_get (a c : UInt8) (s : List UInt8) (k : Nat) (h : k < s.length) (h2 : k < (turn a c (s.take k) ++ s.drop k).length) : (turn a c (s.take k) ++ s.drop k)[k] = s[k] := by
  have hl : (turn a c (s.take k)).length = k := by rw [turn_len, List.length_take]; omega
  rw [List.getElem_append_right (by omega), List.getElem_drop]
  congr 1
  omega

/-- What a text ends in, and what stands ahead of it. -/
theorem cutEnd (f : List UInt8) (k : Nat) : (⟨f.toArray⟩ : ByteArray).extract k f.length = ⟨(f.drop k).toArray⟩ := by
  rw [Nm.cutB, List.take_of_length_le (by rw [List.length_drop]; omega)]
theorem cutHead (f : List UInt8) (k : Nat) : (⟨f.toArray⟩ : ByteArray).extract 0 k = ⟨(f.take k).toArray⟩ := by
  rw [Nm.cutB, Nat.sub_zero, List.drop_zero]

theorem Nm.nd_get (s : List UInt8) (k : Nat) (h : k < (pt s).length) : nd s (k : Int) = (pt s)[k] := by rw [nd_at s k h, rest_at s k h]

end Go.Proofs.YtiolkiikgjedcaaGreatDoor

namespace Go.Proofs.YtiolkiikgjedcaaGreatDoor
open Go.RowKit Go.Shelf Go.Sort
open Me
namespace Tr

theorem sorts_any (m : Nat) : AnyZ.SortsIn Tryz.prog Tryz.trSorted_ren Fence.wide m :=
  ⟨fun blk off cap ss W hH hblk hsz => callsIn_wide.2 (AnyM.slices_Sort_string Tryz.trSort blk off cap ss W hH hblk hsz),
   fun p cap W => callsIn_wide.2 (AnyM.slices_Sort_string_none Tryz.trSort p cap W)⟩
/-- maps.Keys, of a nil map too. -/
theorem keys_any (mb : Option Nat) (W : World) : Calls Tryz.prog 60 #[.map mb] W fun e w' => e = .returned (.func (.func 83) #[] #[.pointer (some ⟨W.heap.size, 0, none⟩)]) ∧ w' = W.alloc (.cells #[.map mb] 49) :=
  (callsIn_wide (n := 5)).1 (AnyZ.keys_in Tryz.trKeys Fence.wide 5 trivial rfl mb W)
theorem sorted_map {H : Type} (b nn : Nat) (D0 : DataW H) (R : Value → Option (DataW H × List MemPlace)) (w : World) (hown : w.ownsMap Tryz.prog 9 R b nn D0) (hmax : Maps.size D0 ≤ maxLen) (hbytes : Maps.size D0 * 16 ≤ 140737488355328) :
    Calls Tryz.prog 59 #[.func (.func 83) #[] #[.pointer (some ⟨w.heap.size, 0, none⟩)]] (w.alloc (.cells #[.map (some b)] 49)) fun e w' => ∃ (v : Value) (ss : List (List UInt8)), e = .returned v ∧ ss.Perm (strKeys D0) ∧
      w'.ownsRow (w.alloc (.cells #[.map (some b)] 49)).heap.size 9 1 v ss.length ((ss.mergeSort (fun x y => decide (x ≤ y))).map encStr) ∧ (v = .slice none 0 0 ↔ ss = []) ∧ Below (w.alloc (.cells #[.map (some b)] 49)).heap.size (w.alloc (.cells #[.map (some b)] 49)) w' := by
  have hbl := hown.lt
  have hseq : SeqGives Fence.wide 2 Tryz.prog 83 #[.pointer (some ⟨w.heap.size, 0, none⟩)] encStr (fun ss => ss.Perm (strKeys D0)) (Maps.size D0) (w.alloc (.cells #[.map (some b)] 49)) :=
    AnyZ.keys_gives (ρ := Tryz.trKeys_ren) { Tryz.trKeys with } Fence.wide _ trivial rfl (by omega) w.heap.size b nn D0 _ (by simp) (by simp) (by
      obtain ⟨es, clock, hb, Ft, hs, hD⟩ := hown
      exact ⟨es, clock, (Below.heap_alloc _ _ b hbl).trans hb, Ft, hs, hD⟩)
  exact (callsIn_wide (n := 5)).1 (AnyZ.sorted_in Tryz.trSorted Fence.wide 5 trivial trivial trivial trivial rfl (by omega) (sorts_any _) (enters_of Tryz.func82 (by kernel_rfl) rfl) 83 #[.pointer (some ⟨w.heap.size, 0, none⟩)] trivial (enters_of Tryz.func83 (by kernel_rfl) rfl) _ _ hmax hbytes _ hseq)
theorem sorted_nil (w : World) :
    Calls Tryz.prog 59 #[.func (.func 83) #[] #[.pointer (some ⟨w.heap.size, 0, none⟩)]] (w.alloc (.cells #[.map none] 49)) fun e w' => ∃ (v : Value) (ss : List (List UInt8)), e = .returned v ∧ ss = [] ∧
      w'.ownsRow (w.alloc (.cells #[.map none] 49)).heap.size 9 1 v ss.length ((ss.mergeSort (fun x y => decide (x ≤ y))).map encStr) ∧ (v = .slice none 0 0 ↔ ss = []) ∧ Below (w.alloc (.cells #[.map none] 49)).heap.size (w.alloc (.cells #[.map none] 49)) w' := by
  have hseq : SeqGives Fence.wide 2 Tryz.prog 83 #[.pointer (some ⟨w.heap.size, 0, none⟩)] encStr (fun ss : List (List UInt8) => ss = []) 0 (w.alloc (.cells #[.map none] 49)) :=
    AnyZ.keys_gives_nil (ρ := Tryz.trKeys_ren) { Tryz.trKeys with } Fence.wide _ trivial rfl w.heap.size _ (by simp) (by simp)
  exact (callsIn_wide (n := 5)).1 (AnyZ.sorted_in Tryz.trSorted Fence.wide 5 trivial trivial trivial trivial rfl (by omega) (sorts_any _) (enters_of Tryz.func82 (by kernel_rfl) rfl) 83 #[.pointer (some ⟨w.heap.size, 0, none⟩)] trivial (enters_of Tryz.func83 (by kernel_rfl) rfl) _ 0 (Nat.zero_le _) (by omega) _ hseq)
theorem encS (l : List (List UInt8)) : l.map encStr = byS l := by
  unfold byS
  exact List.map_congr_left fun x _ => by simp [encStr]
/-- The keys of a map, sorted. -/
theorem sortedKeys_any {w : World} {mb : Option Nat} {k : Nat} {m : List UInt8 → Option Nat} (h : Mp w mb k m) (hk : k ≤ 1099511627776) :
    Calls Tryz.prog 59 #[.func (.func 83) #[] #[.pointer (some ⟨w.heap.size, 0, none⟩)]] (w.alloc (.cells #[.map mb] 49)) fun e w' => ∃ v ks, e = .returned v ∧ ks.Pairwise (fun a b => a < b) ∧ (∀ x, x ∈ ks ↔ m x ≠ none) ∧ ks.length ≤ k ∧ OwnS (w.heap.size + 1) w' v ks ∧ Below (w.heap.size + 1) (w.alloc (.cells #[.map mb] 49)) w' := by
  have hsz : (w.alloc (.cells #[.map mb] 49)).heap.size = w.heap.size + 1 := by simp
  have fin : ∀ (ss : List (List UInt8)), ss.Nodup → (∀ x, x ∈ ss ↔ m x ≠ none) → ss.length ≤ k → ∀ (v : Value) (w' : World), w'.ownsRow (w.heap.size + 1) 9 1 v ss.length ((ss.mergeSort (fun x y => decide (x ≤ y))).map encStr) → Below (w.heap.size + 1) (w.alloc (.cells #[.map mb] 49)) w' →
      ∃ v' ks, Ending.returned v = .returned v' ∧ ks.Pairwise (fun a b => a < b) ∧ (∀ x, x ∈ ks ↔ m x ≠ none) ∧ ks.length ≤ k ∧ OwnS (w.heap.size + 1) w' v' ks ∧ Below (w.heap.size + 1) (w.alloc (.cells #[.map mb] 49)) w' := by
    intro ss hn hm hl v w' hrow hb
    have tr : ∀ a b c : List UInt8, Go.leB a b = true → Go.leB b c = true → Go.leB a c = true := fun a b c h1 h2 => by simp only [Go.leB, decide_eq_true_eq] at *; exact List.le_trans h1 h2
    have to : ∀ a b : List UInt8, (Go.leB a b || Go.leB b a) = true := fun a b => by simp only [Go.leB, Bool.or_eq_true, decide_eq_true_eq]; exact List.le_total a b
    have hp := List.pairwise_mergeSort tr to ss
    have hperm := List.mergeSort_perm ss Go.leB
    have hnd : (ss.mergeSort Go.leB).Nodup := hperm.nodup_iff.2 hn
    refine ⟨v, ss.mergeSort Go.leB, rfl, ?_, fun x => (hperm.mem_iff).trans (hm x), by rw [List.length_mergeSort]; exact hl, ?_, hb⟩
    · refine (hp.and hnd).imp ?_
      rintro a b ⟨h1, h2⟩
      simp only [Go.leB, decide_eq_true_eq] at h1
      rcases bl_tot a b with h3 | h3 | h3
      · exact absurd h3 h2
      · exact h3
      · exact absurd (List.le_antisymm h1 (List.le_of_lt h3)) h2
    · unfold OwnS
      rw [encS] at hrow
      rw [List.length_mergeSort]
      exact hrow
  rcases h with ⟨rfl, h⟩ | ⟨b, D, rfl, hown, hs⟩
  · refine (sorted_nil w).mono ?_
    rintro e w' ⟨v, ss, rfl, rfl, hrow, _, hb⟩
    rw [hsz] at hrow hb
    exact fin [] List.nodup_nil (fun x => by rw [h x]; simp) (Nat.zero_le _) v w' hrow hb
  · have hle := hown.size_le
    refine (sorted_map b k D ptrR w hown (by unfold maxLen; omega) (by omega)).mono ?_
    rintro e w' ⟨v, ss, rfl, hperm, hrow, _, hb⟩
    rw [hsz] at hrow hb
    obtain ⟨es, hD, hpw, _⟩ := hown.entries keyS
    obtain ⟨es', hD', hko⟩ := hown.keysOf
    obtain rfl : es = es' := by rw [hD] at hD'; simpa using hD'
    subst hD
    have hkey : ∀ p ∈ es, ∃ x, p.1 = .string x := fun p hp => by
      obtain ⟨v, hv⟩ := hko p hp
      obtain ⟨x, _, hx, _⟩ := Maps.keyOf_str Tryz.underlying9 hv
      exact ⟨x, hx⟩
    have hnd : (strKeys (DataW.map es)).Nodup := by
      show (es.map fun p => strOf p.1).Nodup
      refine List.pairwise_map.2 (hpw.imp_of_mem fun {p q} hp hq hne e => hne ?_)
      obtain ⟨a, ha⟩ := hkey p hp
      obtain ⟨b, hb⟩ := hkey q hq
      rw [ha, hb] at e ⊢
      exact congrArg _ e
    refine fin ss (hperm.nodup_iff.2 hnd) (fun x => ?_) ?_ v w' hrow hb
    · rw [hperm.mem_iff]
      have h1 := hs.has x
      rw [Maps.has_eq] at h1
      have h2 : (m x ≠ none) ↔ (m x).isSome = true := by cases m x <;> simp
      rw [h2, ← h1, List.any_eq_true]
      show x ∈ es.map (fun p => strOf p.1) ↔ _
      rw [List.mem_map]
      constructor
      · rintro ⟨p, hp, rfl⟩
        obtain ⟨a, ha⟩ := hkey p hp
        exact ⟨p, hp, by rw [ha]; simp [Lit.sameKey, strOf]⟩
      · rintro ⟨p, hp, he⟩
        obtain ⟨a, ha⟩ := hkey p hp
        refine ⟨p, hp, ?_⟩
        rw [ha] at he ⊢
        simpa [Lit.sameKey, strOf] using he
    · rw [hperm.length_eq]
      show (es.map fun p => strOf p.1).length ≤ k
      rw [List.length_map]
      exact hle
end Tr
end Go.Proofs.YtiolkiikgjedcaaGreatDoor
