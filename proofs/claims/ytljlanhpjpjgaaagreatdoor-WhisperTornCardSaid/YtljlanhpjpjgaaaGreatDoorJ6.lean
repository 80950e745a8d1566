/- OwnB WhPut WhHead -/
import Derived.Test.YtljlanhpjpjgaaaGreatDoorJ1
import Derived.Test.YtljlanhpjpjgaaaGreatDoorRows
import Derived.WalkKit
import Derived.WalkSpells
import Derived.WalkLawsBesides
import Derived.Deep.QuietTactic
import Derived.BigQuiet
import Derived.Lib.QuietBelow
import Derived.Lib.Hide
import Derived.IntWalk
import Derived.Deep.RegionHeld3
import Derived.Laws.MakeOwn
import Derived.Laws.BitsLemmas
import Derived.Laws.IdiomStrings
import Derived.Lib.BufferRead
import Derived.Test.YtljlanhpjpjgaaaGreatDoorJ5
namespace Go.Proofs.YtljlanhpjpjgaaaGreatDoor
set_option maxRecDepth 100000
set_option maxHeartbeats 8000000
section
open Go.RowKit Go.Sort
open Me
theorem info_parts {P : Program} {e : TypeId} {z : Value} {a b : Nat} (h : (P.info? e).map (fun i => (i.zero, i.size, i.bytes)) = some (some z, a, b)) : ∃ i, P.info? e = some i ∧ i.zero = some z ∧ i.size = a ∧ i.bytes = b := by
 cases hi : P.info? e with
 | none => rw [hi] at h; cases h
 | some i => rw [hi] at h; simp at h; exact ⟨i, rfl, h.1, h.2.1, h.2.2⟩
namespace Wh
def four (n : Int) : List UInt8 := [UInt8.ofNat ((n / 16777216) % 256).toNat, UInt8.ofNat ((n / 65536) % 256).toNat, UInt8.ofNat ((n / 256) % 256).toNat, UInt8.ofNat (n % 256).toNat]
def fours (ns : List Int) : List UInt8 := ns.flatMap four
theorem fours_len (ns : List Int) : (fours ns).length = 4 * ns.length := by
 induction ns with
 | nil => rfl
 | cons n ns ih => unfold fours at *; simp [List.flatMap_cons, four, ih]; omega
theorem fours_take (ns : List Int) (k : Nat) (h : k < ns.length) : fours (ns.take (k + 1)) = fours (ns.take k) ++ four ns[k] := by
 unfold fours
 rw [List.take_succ_eq_append_getElem h, List.flatMap_append]
 simp
theorem u8of (x : Int) : ((UInt8.ofNat (x % 256).toNat).toNat : Int) = x % 256 := by
 have h1 := Int.emod_nonneg x (by omega : (256 : Int) ≠ 0)
 have h2 := Int.emod_lt_of_pos x (by omega : (0 : Int) < 256)
 rw [UInt8.toNat_ofNat', Nat.mod_eq_of_lt (by omega)]
 omega
theorem by8_four (n : Int) : by8 (four n) = [.int .u8 ((n / 16777216) % 256), .int .u8 ((n / 65536) % 256), .int .u8 ((n / 256) % 256), .int .u8 (n % 256)] := by
 unfold by8 four
 simp only [List.map_cons, List.map_nil, u8of]
end Wh
def OwnB (base : Nat) (w : World) (v : Value) (l : List UInt8) : Prop := w.ownsRow base 5 1 v l.length (by8 l)
def Laid (base : Nat) (w : World) (v : Value) (l : List UInt8) (e : Ending) (w' : World) : Prop :=
 ∃ v', e = .returned v' ∧ OwnB base w' v' l ∧ Kp (fun b => v.ownBlock = some b) w w' ∧ (∀ g, v'.ownBlock = some g → v.ownBlock = some g ∨ w.heap.size ≤ g)
theorem own_lt {base : Nat} {w : World} {v : Value} {l : List UInt8} (h : OwnB base w v l) : ∀ g, v.ownBlock = some g → base ≤ g ∧ g < w.heap.size := by
 intro g hg
 rcases h.2 with ⟨rfl, _⟩ | ⟨g', cap, cur, rfl, hb, hh, _⟩
 ·cases hg
 ·have : g' = g := by simpa [Value.ownBlock] using hg
  subst this
  exact ⟨hb, (Array.getElem?_eq_some_iff.1 hh).1⟩
theorem by8_four4 {n : Int} (h1 : 0 ≤ n) (h2 : n ≤ 4294967295) : by8 (Wh.four n) = [.int .u8 (n / 16777216), .int .u8 ((n / 65536) % 256), .int .u8 ((n / 256) % 256), .int .u8 (n % 256)] := by
 rw [Wh.by8_four]
 have : n / 16777216 % 256 = n / 16777216 := Int.emod_eq_of_lt (by omega) (by omega)
 rw [this]
theorem own_more {base : Nat} {w : World} {v : Value} {X Y : List UInt8} {m : Nat} (hm : Y.length = m) (h : w.ownsRow base 5 1 v (X.length + m) (by8 X ++ by8 Y)) : OwnB base w v (X ++ Y) := by
 unfold OwnB
 rw [List.length_append, by8_append, hm]
 exact h
theorem OwnB.base {a b : Nat} {w : World} {v : Value} {l : List UInt8} (h : OwnB b w v l) (hab : a ≤ b) : OwnB a w v l := by
 refine ⟨h.1, ?_⟩
 rcases h.2 with hn | ⟨g, cap, cur, hv, hb, rest⟩
 ·exact .inl hn
 ·exact .inr ⟨g, cap, cur, hv, by omega, rest⟩
theorem OwnB.nil (a : Nat) (w : World) : OwnB a w (.slice none 0 0) [] := ⟨rfl, .inl ⟨rfl, rfl⟩⟩
theorem OwnB.kp {a : Nat} {w w' : World} {v : Value} {l : List UInt8} {O : Nat → Prop} (h : OwnB a w v l) (k : Kp O w w') (hO : ∀ g, v.ownBlock = some g → ¬ O g) : OwnB a w' v l :=
 owns_keep h fun g hg => k.block g (own_lt h g hg).2 (hO g hg)
theorem OwnB.below {a : Nat} {w w' : World} {v : Value} {l : List UInt8} (h : OwnB a w v l) (k : Below w.heap.size w w') : OwnB a w' v l :=
 owns_keep h fun g hg => k.block g (own_lt h g hg).2
def Reads (w : World) (v : Value) (l : List UInt8) : Prop := ∃ A c, v = .slice A l.length c ∧ l.length ≤ c ∧ Rd w (fun _ => True) A (by8 l)
theorem Reads.keep {w w' : World} {v : Value} {l : List UInt8} (h : Reads w v l) (hs : w.heap.size ≤ w'.heap.size) (hk : ∀ i, i < w.heap.size → w'.heap[i]? = w.heap[i]?) : Reads w' v l := by
 obtain ⟨A, c, e, hc, hr⟩ := h
 exact ⟨A, c, e, hc, hr.keep hs fun i hi _ => hk i hi⟩
theorem Reads.below {w w' : World} {v : Value} {l : List UInt8} (h : Reads w v l) (b : Below w.heap.size w w') : Reads w' v l := h.keep b.size fun i hi => b.block i hi
theorem Reads.conv {w : World} {v : Value} {l : List UInt8} (h : Reads w v l) : (convert 45 9 v).run Tryz.prog w = .ok (.string ⟨l.toArray⟩) w := by
 obtain ⟨A, c, rfl, _, hr⟩ := h
 by_cases hl : l = []
 ·subst hl
  cases A with
  | none => exact Lib.run_convert_nil_bytes w _ _ 5 c Tryz.underlying45 Tryz.underlying5 Tryz.underlying9
  | some a => exact run_convert_bytes_back w _ _ 5 a c [] Tryz.underlying45 Tryz.underlying5 Tryz.underlying9 fun j hj => by cases hj
 ·obtain ⟨ad, rfl, _, _, hc⟩ := hr (by intro e; apply hl; have := by8_len l; rw [e] at this; exact List.eq_nil_of_length_eq_zero this.symm)
  exact run_convert_bytes_back w _ _ 5 ad c l Tryz.underlying45 Tryz.underlying5 Tryz.underlying9 fun j hj => hc j _ (by8_get l j hj)
theorem Reads.own {w : World} {base : Nat} {v : Value} {l : List UInt8} (h : OwnB base w v l) : Reads w v l := by
 obtain ⟨A, c, e, hc, _, hr⟩ := Bs.own h
 exact ⟨A, c, e, hc, hr.mono fun _ _ _ => trivial⟩
theorem Reads.take {w : World} {A : Option Addr} {l : List UInt8} {c n : Nat} (h : Reads w (.slice A l.length c) l) (hn : n ≤ l.length) : Reads w (.slice A n c) (l.take n) := by
 obtain ⟨A', c', e, hc, hr⟩ := h
 injection e with e1 e2 e3
 subst e1 e3
 refine ⟨A, c, by rw [List.length_take, Nat.min_eq_left hn], by rw [List.length_take]; omega, fun hne => ?_⟩
 obtain ⟨ad, e, h1, h2, h3⟩ := hr (by rintro e; apply hne; unfold by8 at *; rw [List.map_eq_nil_iff] at e; rw [e]; simp)
 refine ⟨ad, e, h1, h2, fun j u hu => h3 j u ?_⟩
 unfold by8 at hu ⊢
 rw [List.map_take, List.getElem?_take] at hu
 split at hu
 ·exact hu
 ·cases hu
namespace Wh
def byt (L : List UInt8) (i : Nat) : Nat := (L.getD i 0).toNat
def nm (L : List UInt8) (i : Nat) : Int := (byt L i : Int) * 16777216 + byt L (i + 1) * 65536 + byt L (i + 2) * 256 + byt L (i + 3)
theorem by_lt (L : List UInt8) (i : Nat) : byt L i < 256 := UInt8.toNat_lt _
theorem nm_bd (L : List UInt8) (i : Nat) : 0 ≤ nm L i ∧ nm L i ≤ 4294967295 := by
 have := by_lt L i
 have := by_lt L (i + 1)
 have := by_lt L (i + 2)
 have := by_lt L (i + 3)
 unfold nm
 omega
theorem wraps_i64 (n : Int) (h₀ : 0 ≤ n) (h₁ : n < 2 ^ 63) : IntKind.i64.wrap n = n := by rw [IntKind.wrap_i64]; omega
theorem join (i : Nat) (x y : Int) (hx₀ : 0 ≤ x) (hx : x % 2 ^ i = 0) (hx₁ : x < 2 ^ 63) (hy₀ : 0 ≤ y) (hy : y < 2 ^ i) (hy₁ : y < 2 ^ 63) : bits .or .i64 x y = x + y :=
 bits_join .i64 63 (by decide) wraps_i64 i x y hx₀ hx hx₁ hy₀ hy hy₁
theorem join4 (c0 c1 c2 c3 : Nat) (k0 : c0 < 256) (k1 : c1 < 256) (k2 : c2 < 256) (k3 : c3 < 256) :
 bits .or .i64 (bits .or .i64 (bits .or .i64 ((c0 : Int) * 16777216) ((c1 : Int) * 65536)) ((c2 : Int) * 256)) (c3 : Int) = (c0 : Int) * 16777216 + c1 * 65536 + c2 * 256 + c3 := by
 rw [join 24 ((c0 : Int) * 16777216) ((c1 : Int) * 65536) (by omega) (by omega) (by omega) (by omega) (by omega) (by omega),
  join 16 ((c0 : Int) * 16777216 + (c1 : Int) * 65536) ((c2 : Int) * 256) (by omega) (by omega) (by omega) (by omega) (by omega) (by omega),
  join 8 ((c0 : Int) * 16777216 + (c1 : Int) * 65536 + (c2 : Int) * 256) (c3 : Int) (by omega) (by omega) (by omega) (by omega) (by omega) (by omega)]
end Wh
structure By (w : World) (b off : Nat) (L : List UInt8) : Prop where
 lt : b < w.heap.size
 at_ : ∀ j, j < L.length → w.cell? ⟨b, off + j, none⟩ = some (.int .u8 (Wh.byt L j : Int))
theorem By.below {w w' : World} {b off : Nat} {L : List UInt8} (h : By w b off L) (hb : Below w.heap.size w w') : By w' b off L :=
 ⟨Nat.lt_of_lt_of_le h.lt hb.size, fun j hj => (hb.cell (p := ⟨b, off + j, none⟩) h.lt).trans (h.at_ j hj)⟩
theorem fromFour_lit (b off n cap : Nat) (c0 c1 c2 c3 : Nat) (w : World) (hn : 4 ≤ n) (k0 : c0 < 256) (k1 : c1 < 256) (k2 : c2 < 256) (k3 : c3 < 256)
 (e0 : w.cell? ⟨b, off, none⟩ = some (.int .u8 c0)) (e1 : w.cell? ⟨b, off + 1, none⟩ = some (.int .u8 c1)) (e2 : w.cell? ⟨b, off + 2, none⟩ = some (.int .u8 c2)) (e3 : w.cell? ⟨b, off + 3, none⟩ = some (.int .u8 c3)) :
 Calls Tryz.prog 76 #[.slice (some ⟨b, off, none⟩) n cap] w fun e w' => e = .returned (.int .i64 ((c0 : Int) * 16777216 + c1 * 65536 + c2 * 256 + c3)) ∧ ∃ m, w' = w.drewN m := by
 have HJ := Lib.hid (Wh.join4 c0 c1 c2 c3 k0 k1 k2 k3)
 go_enter Tryz.func76, Tryz.ntmps76
 go_wp2_with fail
 go_quiet (fail)
 go_wp2
 go_ret
 exact ⟨by rw [← HJ.out]; rfl, _, rfl⟩
theorem fromFour_dr (L : List UInt8) (i b off n cap : Nat) (w : World) (h : By w b off L) (hi : i + 4 ≤ L.length) (hn : 4 ≤ n) :
 Calls Tryz.prog 76 #[.slice (some ⟨b, off + i, none⟩) n cap] w fun e w' => e = .returned (.int .i64 (Wh.nm L i)) ∧ ∃ m, w' = w.drewN m :=
 fromFour_lit b (off + i) n cap _ _ _ _ w hn (Wh.by_lt L i) (Wh.by_lt L (i + 1)) (Wh.by_lt L (i + 2)) (Wh.by_lt L (i + 3)) (h.at_ i (by omega)) (h.at_ (i + 1) (by omega)) (h.at_ (i + 2) (by omega)) (h.at_ (i + 3) (by omega))
def RowAt (w : World) (g : Nat) (t : TypeId) (cs : Array Value) : Prop := w.heap[g]? = some (.cells cs t (0, 0))
section
variable {w w' : World} {g : Nat} {t : TypeId} {cs : Array Value}
theorem RowAt.lt (h : RowAt w g t cs) : g < w.heap.size := (Array.getElem?_eq_some_iff.1 h).1
theorem RowAt.cell (h : RowAt w g t cs) (i : Nat) : w.cell? ⟨g, i, none⟩ = cs[i]? := cell_of_row w g i cs t (0, 0) h
theorem RowAt.frozen (h : RowAt w g t cs) (i : Nat) : w.frozen? ⟨g, i, none⟩ = false := by
 unfold RowAt at h
 simp [World.frozen?, h]
theorem RowAt.set_ (h : RowAt w g t cs) (i : Nat) (u : Value) : RowAt (w.setCell ⟨g, i, none⟩ u) g t (cs.setIfInBounds i u) := by
 unfold RowAt at h ⊢
 simp [World.setCell, Array.getElem?_modify, h]
theorem RowAt.far (h : RowAt w g t cs) {p : Addr} (hp : g ≠ p.block) (u : Value) : RowAt (w.setCell p u) g t cs := (Below.heap_setCell w p u g hp).trans h
theorem RowAt.below (h : RowAt w g t cs) {B : Nat} (hb : Below B w w') (hg : g < B) : RowAt w' g t cs := (hb.block g hg).trans h
theorem RowAt.alloc (h : RowAt w g t cs) (o : Obj) : RowAt (w.alloc o) g t cs := (Below.heap_alloc w o g h.lt).trans h
theorem RowAt.new (w : World) (cs : Array Value) (t : TypeId) : RowAt (w.alloc (.cells cs t)) w.heap.size t cs := heap_alloc_new w _
theorem RowAt.drewN (h : RowAt w g t cs) (n : Nat) : RowAt (w.drewN n) g t cs := h
theorem RowAt.drew (h : RowAt w g t cs) : RowAt w.drew g t cs := h
end
theorem four_any (n : Int) (h1 : 0 ≤ n) (h2 : n ≤ 4294967295) (w : World) :
 Calls Tryz.prog 48 #[.int .i64 n] w fun e w' => e = .returned (.slice (some ⟨w.heap.size, 0, none⟩) 4 4) ∧ w' = w.alloc (.cells (by8 (Wh.four n)).toArray 5) := by
 have HE := Lib.hid (by8_four4 h1 h2)
 go_enter Tryz.func48, Tryz.ntmps48
 go_wp2
 go_ret
 exact ⟨rfl, by rw [HE.out]⟩
end
section
open Go.RowKit Go.Sort
open Me
theorem wput_any (base : Nat) (L : List UInt8) (v : Value) (ns : List Int) (A : Option Addr) (c : Nat) (G : Nat → Prop) (w : World) (hown : OwnB base w v L) (hrd : Rd w G A (ns.map fun n => .int .i64 n)) (hG : ∀ g, v.ownBlock = some g → ¬ G g)
 (hb : ∀ n ∈ ns, 0 ≤ n ∧ n ≤ 4294967295) (hbase : base ≤ w.heap.size) (hL : L.length ≤ 1048576) (hn : ns.length ≤ 1048576) :
 Calls Tryz.prog 59 #[v, .slice A ns.length c] w (Laid base w v (L ++ Wh.fours ns)) := by
 obtain ⟨j0, hj0, hy0, hy1, hy2⟩ := info_parts u8info
 have HJ := Lib.hid hj0
 have HY := Lib.hid (And.intro hy0 (And.intro hy1 hy2))
 clear hj0 hy0 hy1 hy2
 have HR := Lib.hid hrd
 have HG := Lib.hid hG
 have HB := Lib.hid hb
 obtain ⟨A0, n0, c0, rfl⟩ := own_slice hown
 have HO := Lib.hid hown
 have hn2 : (ns.length : Int) ≤ 1048576 := by omega
 clear hown hrd hG hb
 go_enter Tryz.func59, Tryz.ntmps59
 go_wp2_with fail
 go_loopw [0, 9] (fun u i wr => ∃ (k : Nat) (A' : Option Addr) (n' c' : Nat), k ≤ ns.length ∧ i = .int .i64 k ∧ u = .slice A' n' c' ∧ Hid (OwnB base wr u (L ++ Wh.fours (ns.take k))) ∧ Kp (fun b => (Value.slice A0 n0 c0).ownBlock = some b) w wr ∧ Hid (∀ g, u.ownBlock = some g → (Value.slice A0 n0 c0).ownBlock = some g ∨ w.heap.size ≤ g)) (fun _ i _ => ns.length - (intOf i).toNat)
 case atStart => exact ⟨0, _, _, _, Nat.zero_le _, rfl, rfl, Lib.hid (by simpa [Wh.fours] using HO.out), Kp.refl _ _, Lib.hid fun g h => .inl h⟩
 case round =>
  obtain ⟨k, A', n', c', hk, rfl, rfl, ho, hkp, hfr⟩ := hrel
  by_cases hlt : k < ns.length
  ·have hR := HR.out.kp hkp (fun i _ hi he => HG.out i he hi)
   obtain ⟨rb, ro, rfl, hlt2, hg, hcell⟩ := hR.lit k (by simp; omega)
   have hcl := hcell k (.int .i64 ns[k]) (by simp [hlt])
   obtain ⟨b1, b2⟩ := HB.out ns[k] (List.getElem_mem hlt)
   have HF := Lib.hid (Wh.fours_take ns k hlt)
   have hXl : (L ++ Wh.fours (ns.take k)).length ≤ 5242880 := by rw [List.length_append, Wh.fours_len, List.length_take]; omega
   have hksz := hkp.size
   have HKP := Lib.hid hkp
   have HRF : Hid (Rd (wr.alloc (.cells #[.int .u8 (ns[k] / 16777216), .int .u8 ((ns[k] / 65536) % 256), .int .u8 ((ns[k] / 256) % 256), .int .u8 (ns[k] % 256)] 5)) (fun b => b = wr.heap.size) (some ⟨wr.heap.size, 0, none⟩) (by8 (Wh.four ns[k]))) := Lib.hid (by
    rw [by8_four4 b1 b2]; exact Rd.fresh wr [_, _, _, _] _ _ rfl)
   have hfl : (Wh.four ns[k]).length = 4 := rfl
   have HOW : Hid ((wr.alloc (.cells #[.int .u8 (ns[k] / 16777216), .int .u8 ((ns[k] / 65536) % 256), .int .u8 ((ns[k] / 256) % 256), .int .u8 (ns[k] % 256)] 5)).ownsRow base 5 1 (.slice A' n' c') (L ++ Wh.fours (ns.take k)).length (by8 (L ++ Wh.fours (ns.take k)))) := Lib.hid (owns_keep ho.out fun g hg => Below.heap_alloc _ _ _ (own_lt ho.out g hg).2)
   clear hR hcell hkp
   generalize ns[k] = n at *
   have HFL := Lib.hid hfl
   clear hfl
   generalize hX : L ++ Wh.fours (ns.take k) = X at *
   have HX := Lib.hid hX
   clear hX
   go_wp2_with (at_builtin; refine wpList_app _ rfl (.tmp 13) (.tmp 25) 45 rfl base 5 j0 (.int .u8 0) 1 1 Tryz.underlying45 HJ.out HY.out.1 HY.out.2.1 HY.out.2.2 rfl (by decide) (.slice A' n' c') X.length (by8 X) rfl HOW.out (fun b => b = wr.heap.size) (some ⟨wr.heap.size, 0, none⟩) 4 4 (by8 (Wh.four n)) rfl (by rw [by8_len, HFL.out]) HRF.out (by8_one _) (by unfold maxLen; omega) (by omega) (by simp; omega) ?_; intro v1 w1 hown1 hg1 hat1 hnil1)
   obtain ⟨A1, n1, c1, rfl⟩ := own_slice hown1
   have HO1 := Lib.hid (own_more HFL.out hown1)
   have HG1 := Lib.hid hg1
   have HAT := Lib.hid hat1
   clear hown1 hg1 hat1 hnil1
   go_wp2_with fail
   go_roundw
   case rel =>
    refine ⟨k + 1, _, _, _, by omega, by go_num, rfl, Lib.hid (by rw [HF.out, ← List.append_assoc, HX.out]; exact HO1.out), (HKP.out.alloc _).grown HG1.out (fun g hg => (hfr.out g hg).symm), Lib.hid fun g hg => ?_⟩
    rcases HAT.out with h | h
    ·exact hfr.out g (h ▸ hg)
    ·rw [h] at hg
     simp at hg
     exact .inr (by omega)
   case measure => simp [intOf]; omega
  ·obtain rfl : k = ns.length := by omega
   rw [List.take_length] at ho
   go_wp2_with fail
   go_ret
   exact ⟨_, rfl, ho.out, hkp, hfr.out⟩
end
section
open Go.RowKit Go.Sort
open Wh (At)
namespace Wh
def size (ag xf : Int) (l : List (Int × Int)) : Int := if val ag xf l = true then ends l l.length else 0
def spn (ag xf : Int) (l : List (Int × Int)) : Int := if val ag xf l = true then lsp l else 0
def offs (ag xf : Int) (l : List (Int × Int)) (i : Int) : Int := if val ag xf l = true ∧ 0 ≤ i ∧ i < (l.length : Int) then ends l i.toNat else 0
end Wh
theorem isValid_any (ag xf : Int) (l : List (Int × Int)) (A : Option Addr) (cap : Nat) (w : World) (h : Row w A l cap) :
 Calls Tryz.prog 57 #[.agg #[.int .i64 ag, .int .i64 xf, .slice A l.length cap]] w fun e w' => e = .returned (.bool (Wh.val ag xf l)) ∧ Below w.heap.size w w' := by
 have HV : Hid (∀ W, Below w.heap.size w W → Calls Tryz.prog 95 #[.slice A l.length cap] W fun e w' => e = .returned (.bool (Wh.av l)) ∧ Below W.heap.size W w') := Lib.hid fun W hb => areValid_any l A cap W (h.below hb)
 have HX : Hid (ag < 1 ∨ 5 < ag ∨ xf < 0 ∨ 1000000 < xf ∨ Wh.av l = false → Wh.val ag xf l = false) := Lib.hid Wh.val_head
 have HK := Lib.hid (isKind_any ag)
 clear h
 cases k1 : Wh.kind ag
 ·have HQ : Hid (Wh.val ag xf l = false) := Lib.hid (by unfold Wh.val; rw [k1]; rfl)
  go_enter Tryz.func57, Tryz.ntmps57
  go_wp2_with (go_at_call 94; go_must (refine (HK.out _).mono ?_; rintro e w' ⟨rfl, rfl⟩))
  go_ret
  exact ⟨by rw [HQ.out]; rfl, Bq⟩
 ·obtain ⟨g1, g2⟩ := Wh.kind_bd k1
  by_cases x1 : 0 ≤ xf
  ·by_cases x2 : xf ≤ 1000000
   ·have HQ := Lib.hid (Wh.val_av (l := l) g1 g2 x1 x2)
    generalize Wh.av l = av at *
    go_enter Tryz.func57, Tryz.ntmps57
    go_wp2_with first | (go_at_call 94; go_must (refine (HK.out _).mono ?_; rintro e w' ⟨rfl, rfl⟩)) | (go_at_call 95; go_must (refine (HV.out _ ((Below.refl _ _).alloc (Nat.le_refl _) _)).mono ?_; rintro e w' ⟨rfl, hb⟩; obtain ⟨hc, hf⟩ := bcell hb; (try have hz0 : w.heap.size < w'.heap.size := Bz hb); (try have hz1 : w.heap.size + 1 < w'.heap.size := Bz hb); (try have hz2 : w.heap.size + 1 + 1 < w'.heap.size := Bz hb); have hz := hb.size; (try simp at hz)))
    go_ret
    exact ⟨by rw [HQ.out]; rfl, Bq⟩
   ·have HQ := Lib.hid (HX.out (.inr (.inr (.inr (.inl (by omega))))))
    go_enter Tryz.func57, Tryz.ntmps57
    go_wp2_with (go_at_call 94; go_must (refine (HK.out _).mono ?_; rintro e w' ⟨rfl, rfl⟩))
    go_ret
    exact ⟨by rw [HQ.out]; rfl, Bq⟩
  ·have HQ := Lib.hid (HX.out (.inr (.inr (.inl (by omega)))))
   go_enter Tryz.func57, Tryz.ntmps57
   go_wp2_with (go_at_call 94; go_must (refine (HK.out _).mono ?_; rintro e w' ⟨rfl, rfl⟩))
   go_ret
   exact ⟨by rw [HQ.out]; rfl, Bq⟩
theorem row_val {w : World} {A : Option Addr} {l : List (Int × Int)} {cap : Nat} {ag xf : Int} (h : Row w A l cap) (hv : Wh.val ag xf l = true) :
 ∃ b off, A = some ⟨b, off, none⟩ ∧ Ars w b off l ∧ l.length ≤ cap ∧ 1 ≤ l.length ∧ l.length ≤ 8 ∧ Wh.alls l l.length = true ∧ Wh.ends l l.length ≤ 1048576 ∧ 1 ≤ Wh.lsp l ∧ Wh.lsp l ≤ 4294967295 := by
 obtain ⟨_, _, _, ha⟩ := Wh.val_t hv
 obtain ⟨a1, a2, a3, a4, a5⟩ := Wh.av_t ha
 obtain ⟨b, off, e, hA⟩ := h.2 a1
 exact ⟨b, off, e, hA, h.1, a1, a2, a3, a4, (Wh.lsp_bd a1 a3).1, a5⟩
theorem wsize_any (ag xf : Int) (l : List (Int × Int)) (A : Option Addr) (cap : Nat) (w : World) (h : Row w A l cap) :
 Calls Tryz.prog 30 #[.agg #[.int .i64 ag, .int .i64 xf, .slice A l.length cap]] w fun e w' => e = .returned (.int .i64 (Wh.size ag xf l)) ∧ Below w.heap.size w w' := by
 have HV : Hid (∀ W, Below w.heap.size w W → Calls Tryz.prog 57 #[.agg #[.int .i64 ag, .int .i64 xf, .slice A l.length cap]] W fun e w' => e = .returned (.bool (Wh.val ag xf l)) ∧ Below W.heap.size W w') := Lib.hid fun W hb => isValid_any ag xf l A cap W (h.below hb)
 cases hv : Wh.val ag xf l
 ·rw [hv] at HV
  have HQ : Hid (Wh.size ag xf l = 0) := Lib.hid (by unfold Wh.size; rw [hv]; rfl)
  clear hv h
  go_enter Tryz.func30, Tryz.ntmps30
  go_wp2_with (go_at_call 57; go_must (refine (HV.out _ ((Below.refl _ _).alloc (Nat.le_refl _) _)).mono ?_; rintro e w' ⟨rfl, hb⟩; obtain ⟨hc, hf⟩ := bcell hb; (try have hz0 : w.heap.size < w'.heap.size := Bz hb); (try have hz1 : w.heap.size + 1 < w'.heap.size := Bz hb); (try have hz2 : w.heap.size + 1 + 1 < w'.heap.size := Bz hb); have hz := hb.size; (try simp at hz)))
  go_ret
  exact ⟨by rw [HQ.out]; rfl, Bq⟩
 ·rw [hv] at HV
  have HQ : Hid (Wh.size ag xf l = Wh.ends l l.length) := Lib.hid (by unfold Wh.size; rw [hv]; rfl)
  obtain ⟨b, off, rfl, hA, hcap, a1, a2, a3, a4, _⟩ := row_val h hv
  have HE : Hid (∀ W, Below w.heap.size w W → Calls Tryz.prog 67 #[.slice (some ⟨b, off, none⟩) l.length cap, .int .i64 l.length] W fun e w' => e = .returned (.int .i64 (Wh.ends l l.length)) ∧ Below W.heap.size W w') :=
   Lib.hid fun W hb => end_any l b off cap l.length W (hA.below hb) hcap (Nat.le_refl _) a2 (Wh.alls_cnt a3)
  clear hv h hA a3 a4
  generalize Wh.ends l l.length = en at *
  go_enter Tryz.func30, Tryz.ntmps30
  go_wp2_with first | (go_at_call 57; (((with_reducible refine (HV.out _ ((Below.refl _ _).alloc (Nat.le_refl _) _)).mono ?_)); rintro e w1 ⟨rfl, hb1⟩; obtain ⟨hc1, hf1⟩ := bcell hb1; (try have hq1w : w.heap.size < w1.heap.size := Bz hb1); have hs1 := hb1.size; (try simp at hs1))) | (go_at_call 67; (((with_reducible refine (HE.out _ (((Below.refl _ _).alloc (Nat.le_refl _) _).trans (hb1.mono (by simp)))).mono ?_)); rintro e w2 ⟨rfl, hb2⟩; obtain ⟨hc2, hf2⟩ := bcell hb2; (try have hq2w : w.heap.size < w2.heap.size := Bz hb2); have hs2 := hb2.size; (try simp at hs2)))
  go_ret
  exact ⟨by rw [HQ.out]; rfl, Bq⟩
theorem spn_any (ag xf : Int) (l : List (Int × Int)) (A : Option Addr) (cap : Nat) (w : World) (h : Row w A l cap) :
 Calls Tryz.prog 85 #[.agg #[.int .i64 ag, .int .i64 xf, .slice A l.length cap]] w fun e w' => e = .returned (.int .i64 (Wh.spn ag xf l)) ∧ Below w.heap.size w w' := by
 have HV : Hid (∀ W, Below w.heap.size w W → Calls Tryz.prog 57 #[.agg #[.int .i64 ag, .int .i64 xf, .slice A l.length cap]] W fun e w' => e = .returned (.bool (Wh.val ag xf l)) ∧ Below W.heap.size W w') := Lib.hid fun W hb => isValid_any ag xf l A cap W (h.below hb)
 cases hv : Wh.val ag xf l
 ·rw [hv] at HV
  have HQ : Hid (Wh.spn ag xf l = 0) := Lib.hid (by unfold Wh.spn; rw [hv]; rfl)
  clear hv h
  go_enter Tryz.func85, Tryz.ntmps85
  go_wp2_with (go_at_call 57; go_must (refine (HV.out _ ((Below.refl _ _).alloc (Nat.le_refl _) _)).mono ?_; rintro e w' ⟨rfl, hb⟩; obtain ⟨hc, hf⟩ := bcell hb; (try have hz0 : w.heap.size < w'.heap.size := Bz hb); (try have hz1 : w.heap.size + 1 < w'.heap.size := Bz hb); (try have hz2 : w.heap.size + 1 + 1 < w'.heap.size := Bz hb); have hz := hb.size; (try simp at hz)))
  go_ret
  exact ⟨by rw [HQ.out]; rfl, Bq⟩
 ·rw [hv] at HV
  have HQ : Hid (Wh.spn ag xf l = Wh.lsp l) := Lib.hid (by unfold Wh.spn; rw [hv]; rfl)
  obtain ⟨b, off, rfl, hA, hcap, a1, a2, a3, a4, a5, a6⟩ := row_val h hv
  have HE : Hid (∀ W, Below w.heap.size w W → Calls Tryz.prog 60 #[.slice (some ⟨b, off, none⟩) l.length cap] W fun e w' => e = .returned (.int .i64 (Wh.lsp l)) ∧ Below W.heap.size W w') :=
   Lib.hid fun W hb => lastSpan_any l b off cap W (hA.below hb) a1 a2 (IntWalk.i64_in _ (by omega))
  clear hv h hA a3 a4 a5 a6
  generalize Wh.lsp l = en at *
  go_enter Tryz.func85, Tryz.ntmps85
  go_wp2_with first | (go_at_call 57; (((with_reducible refine (HV.out _ ((Below.refl _ _).alloc (Nat.le_refl _) _)).mono ?_)); rintro e w1 ⟨rfl, hb1⟩; obtain ⟨hc1, hf1⟩ := bcell hb1; (try have hq1w : w.heap.size < w1.heap.size := Bz hb1); have hs1 := hb1.size; (try simp at hs1))) | (go_at_call 60; (((with_reducible refine (HE.out _ (((Below.refl _ _).alloc (Nat.le_refl _) _).trans (hb1.mono (by simp)))).mono ?_)); rintro e w2 ⟨rfl, hb2⟩; obtain ⟨hc2, hf2⟩ := bcell hb2; (try have hq2w : w.heap.size < w2.heap.size := Bz hb2); have hs2 := hb2.size; (try simp at hs2)))
  go_ret
  exact ⟨by rw [HQ.out]; rfl, Bq⟩
theorem offs_any (ag xf : Int) (l : List (Int × Int)) (A : Option Addr) (cap : Nat) (i : Int) (w : World) (h : Row w A l cap) :
 Calls Tryz.prog 83 #[.agg #[.int .i64 ag, .int .i64 xf, .slice A l.length cap], .int .i64 i] w fun e w' => e = .returned (.int .i64 (Wh.offs ag xf l i)) ∧ Below w.heap.size w w' := by
 have HV : Hid (∀ W, Below w.heap.size w W → Calls Tryz.prog 57 #[.agg #[.int .i64 ag, .int .i64 xf, .slice A l.length cap]] W fun e w' => e = .returned (.bool (Wh.val ag xf l)) ∧ Below W.heap.size W w') := Lib.hid fun W hb => isValid_any ag xf l A cap W (h.below hb)
 cases hv : Wh.val ag xf l
 ·rw [hv] at HV
  have HQ : Hid (Wh.offs ag xf l i = 0) := Lib.hid (by unfold Wh.offs; rw [hv, if_neg (by simp)])
  clear hv h
  go_enter Tryz.func83, Tryz.ntmps83
  go_wp2_with (go_at_call 57; go_must (refine (HV.out _ ((Below.refl _ _).alloc (Nat.le_refl _) _)).mono ?_; rintro e w' ⟨rfl, hb⟩; obtain ⟨hc, hf⟩ := bcell hb; (try have hz0 : w.heap.size < w'.heap.size := Bz hb); (try have hz1 : w.heap.size + 1 < w'.heap.size := Bz hb); (try have hz2 : w.heap.size + 1 + 1 < w'.heap.size := Bz hb); have hz := hb.size; (try simp at hz)))
  go_ret
  exact ⟨by rw [HQ.out]; rfl, Bq⟩
 ·rw [hv] at HV
  by_cases i0 : i < 0
  ·have HQ : Hid (Wh.offs ag xf l i = 0) := Lib.hid (by unfold Wh.offs; rw [if_neg (by omega)])
   clear hv h
   go_enter Tryz.func83, Tryz.ntmps83
   go_wp2_with (go_at_call 57; go_must (refine (HV.out _ ((Below.refl _ _).alloc (Nat.le_refl _) _)).mono ?_; rintro e w' ⟨rfl, hb⟩; obtain ⟨hc, hf⟩ := bcell hb; (try have hz0 : w.heap.size < w'.heap.size := Bz hb); (try have hz1 : w.heap.size + 1 < w'.heap.size := Bz hb); (try have hz2 : w.heap.size + 1 + 1 < w'.heap.size := Bz hb); have hz := hb.size; (try simp at hz)))
   go_ret
   exact ⟨by rw [HQ.out]; rfl, Bq⟩
  ·obtain ⟨i, rfl⟩ : ∃ k : Nat, i = (k : Int) := ⟨i.toNat, by omega⟩
   clear i0
   by_cases i1 : l.length ≤ i
   ·have HQ : Hid (Wh.offs ag xf l i = 0) := Lib.hid (by unfold Wh.offs; rw [if_neg (by omega)])
    clear hv h
    go_enter Tryz.func83, Tryz.ntmps83
    go_wp2_with (go_at_call 57; go_must (refine (HV.out _ ((Below.refl _ _).alloc (Nat.le_refl _) _)).mono ?_; rintro e w' ⟨rfl, hb⟩; obtain ⟨hc, hf⟩ := bcell hb; (try have hz0 : w.heap.size < w'.heap.size := Bz hb); (try have hz1 : w.heap.size + 1 < w'.heap.size := Bz hb); (try have hz2 : w.heap.size + 1 + 1 < w'.heap.size := Bz hb); have hz := hb.size; (try simp at hz)))
    go_ret
    exact ⟨by rw [HQ.out]; rfl, Bq⟩
   ·have HQ : Hid (Wh.offs ag xf l i = Wh.ends l i) := Lib.hid (by unfold Wh.offs; rw [if_pos ⟨hv, by omega, by omega⟩]; rfl)
    obtain ⟨b, off, rfl, hA, hcap, a1, a2, a3, a4, _⟩ := row_val h hv
    have HE : Hid (∀ W, Below w.heap.size w W → Calls Tryz.prog 67 #[.slice (some ⟨b, off, none⟩) l.length cap, .int .i64 i] W fun e w' => e = .returned (.int .i64 (Wh.ends l i)) ∧ Below W.heap.size W w') :=
     Lib.hid fun W hb => end_any l b off cap i W (hA.below hb) hcap (by omega) a2 (Wh.alls_cnt a3)
    clear hv h hA a3 a4
    generalize Wh.ends l i = en at *
    go_enter Tryz.func83, Tryz.ntmps83
    go_wp2_with first | (go_at_call 57; (((with_reducible refine (HV.out _ ((Below.refl _ _).alloc (Nat.le_refl _) _)).mono ?_)); rintro e w1 ⟨rfl, hb1⟩; obtain ⟨hc1, hf1⟩ := bcell hb1; (try have hq1w : w.heap.size < w1.heap.size := Bz hb1); have hs1 := hb1.size; (try simp at hs1))) | (go_at_call 67; (((with_reducible refine (HE.out _ (((Below.refl _ _).alloc (Nat.le_refl _) _).trans (hb1.mono (by simp)))).mono ?_)); rintro e w2 ⟨rfl, hb2⟩; obtain ⟨hc2, hf2⟩ := bcell hb2; (try have hq2w : w.heap.size < w2.heap.size := Bz hb2); have hs2 := hb2.size; (try simp at hs2)))
    go_ret
    exact ⟨by rw [HQ.out]; rfl, Bq⟩
end
end Go.Proofs.YtljlanhpjpjgaaaGreatDoor
