/- VpLib VpFill VpMap VpPut VpJour VpPop VpObj VpGen VpAct VpRead -/
import Derived.Test.YtbakngbmfgnmcaaGreatDoorJ1
import Derived.Test.YtbakngbmfgnmcaaGreatDoorJ14
import Derived.Laws.CopyOwn
import Derived.Laws.MakeOwn
import Derived.Deep.OwnRows
import Derived.Test.YtbakngbmfgnmcaaGreatDoorShelf
import Derived.Lib.LazyBuf
import Derived.Maps.OwnSet
import Derived.Maps.OwnOps
import Derived.RegionTactic
import Derived.Deep.RegionLaw
namespace Go.Proofs.YtbakngbmfgnmcaaGreatDoor
set_option maxRecDepth 100000
set_option maxHeartbeats 8000000
section
open Go.RowKit
open Me Vf
namespace Me
theorem by8_upd (b : List UInt8) (o : Nat) (p : List UInt8) : by8 (upd b o p) = (by8 b).take o ++ (by8 p ++ (by8 b).drop (o + (by8 p).length)) := by
 unfold upd by8
 simp [List.map_take, List.map_drop]
theorem Kp.setRow {O : Nat → Prop} {a w : World} (h : Kp O a w) (g : Nat) (hg : a.heap.size ≤ g ∨ O g) (cs : Array Value) : Kp O a (w.setRow g cs) :=
 ⟨h.os, h.tape, h.output, by simpa [World.setRow] using h.size, fun i hi hn => (setRow_other w g i cs (by
  rintro rfl
  rcases hg with hg | hg
  ·omega
  ·exact hn hg)).trans (h.block i hi hn)⟩
theorem row_size (w : World) (g : Nat) (cs : Array Value) : (w.setRow g cs).heap.size = w.heap.size := by simp [World.setRow]
section
variable {P : Program} {w : World}
theorem run_copy_bs (dT sT ty elem : TypeId) (hu : P.underlying dT = some (.slice elem)) (hsz : (P.info? elem).map (·.size) = some 1)
 (dp sp : Option Addr) (dLen dCap sLen sCap g off : Nat) (cur p : List UInt8) (t : TypeId) (hg : w.heap[g]? = some (.cells (by8 cur).toArray t (0, 0))) (hp : p.length = Nat.min sLen dLen)
 (hpos : 0 < p.length → dp = some ⟨g, off, none⟩) (G : Nat → Prop) (hr : Rd w G sp (by8 p)) (hfit : off + p.length ≤ cur.length) :
 ∃ w', (Builtin.copy_ #[dT, sT] ty #[.slice dp dLen dCap, .slice sp sLen sCap]).run P w = .ok (goInt p.length) w' ∧
  w'.heap[g]? = some (.cells (by8 (upd cur off p)).toArray t (0, 0)) ∧ Kp (fun b => b = g) w w' ∧ w'.heap.size = w.heap.size := by
 by_cases h0 : p.length = 0
 ·obtain rfl : p = [] := List.eq_nil_of_length_eq_zero h0
  refine ⟨w, run_copy_none (P := P) w dT sT ty elem dp sp dLen dCap sLen sCap hu hsz (by simpa using hp.symm), ?_, Kp.refl _ _, rfl⟩
  rw [Vp.upd_nil]
  exact hg
 ·obtain rfl := hpos (by omega)
  obtain ⟨ad, rfl, _, _, hc⟩ := hr (by intro e; apply h0; rw [← by8_len, e]; rfl)
  have hrun := run_copy_row (P := P) w dT sT ty elem g off dLen dCap ad sLen sCap (by8 cur).toArray t (by8 p) hu hsz hg (by rw [by8_len]; exact hp) hc (by simpa [by8_len] using hfit) (by8_one _)
  rw [by8_len] at hrun
  refine ⟨_, hrun, ?_, (Kp.refl (fun b => b = g) w).setRow g (.inr rfl) _, row_size _ _ _⟩
  rw [setRow_heap w g _ _ t _ hg, by8_upd, by8_len, List.append_assoc]
theorem wpList_copy_bs {ops : Array Oper} {rest : List Oper} {o : Oper} {a : Act} {Q : Exit → Act → World → Prop} (hgd : o.guard = none) (d s : Operand) (dT sT : TypeId)
 (ho : o.op = .call { callee := .builtin .copy, args := #[d, s], argTypes := #[dT, sT] }) (elem : TypeId) (hu : P.underlying dT = some (.slice elem)) (hsz : (P.info? elem).map (·.size) = some 1)
 (dp sp : Option Addr) (dLen dCap sLen sCap : Nat) (hd : a.eval d = .slice dp dLen dCap) (hs : a.eval s = .slice sp sLen sCap)
 (g off : Nat) (cur p : List UInt8) (t : TypeId) (hg : w.heap[g]? = some (.cells (by8 cur).toArray t (0, 0))) (hp : p.length = Nat.min sLen dLen)
 (hpos : 0 < p.length → dp = some ⟨g, off, none⟩) (G : Nat → Prop) (hr : Rd w G sp (by8 p)) (hfit : off + p.length ≤ cur.length)
 (h : ∀ w', Hid (w'.heap[g]? = some (.cells (by8 (upd cur off p)).toArray t (0, 0))) → Kp (fun b => b = g) w w' → Hid (w'.heap.size = w.heap.size) → wpList P ops Q rest (a.put o.dst (goInt p.length)) w') :
 wpList P ops Q (o :: rest) a w := by
 refine wpList_plain hgd fun K hK => ?_
 obtain ⟨w', hrun, h1, h2, h3⟩ := run_copy_bs (P := P) (w := w) dT sT o.type elem hu hsz dp sp dLen dCap sLen sCap g off cur p t hg hp hpos G hr hfit
 unfold Oper.wp
 simp [execOp, ho, resolve, invoke, builtin, hd, hs, hrun, Result.andThen]
 exact hK _ _ (h w' (Lib.hid h1) h2 (Lib.hid h3))
end
def noughts (n : Nat) : List UInt8 := List.replicate n 0
theorem noughts_len (n : Nat) : (noughts n).length = n := by simp [noughts]
theorem made_noughts (n : Nat) : madeCells #[.int .u8 0] n = (by8 (noughts n)).toArray := by
 apply Array.ext
 ·rw [size_madeCells]; simp [by8_len, noughts_len]
 ·intro i h1 h2
  simp [madeCells, by8, noughts, Nat.mod_one]
theorem upd_upd {cur a b : List UInt8} {off : Nat} (h : off + a.length + b.length ≤ cur.length) : upd (upd cur off a) (off + a.length) b = upd cur off (a ++ b) := by
 have h1 : (upd cur off a).take (off + a.length) = cur.take off ++ a := by
  unfold upd
  rw [List.take_append_of_le_length (by simp; omega)]
  exact List.take_of_length_le (by simp; omega)
 have h2 : (upd cur off a).drop (off + a.length + b.length) = cur.drop (off + (a ++ b).length) := by
  unfold upd
  rw [List.drop_append, List.drop_eq_nil_of_le (by simp; omega), List.nil_append, List.drop_drop]
  congr 1
  simp
  omega
 have h3 : upd (upd cur off a) (off + a.length) b = (upd cur off a).take (off + a.length) ++ b ++ (upd cur off a).drop (off + a.length + b.length) := rfl
 rw [h3, h1, h2]
 unfold upd
 simp
theorem upd_all {cur p : List UInt8} (h : p.length = cur.length) : upd cur 0 p = p := by
 unfold upd
 rw [List.drop_eq_nil_of_le (by omega)]
 simp
end Me
theorem make_bytes (n : Nat) (hn : n ≤ 4294967296) (W : World) : (Instr.makeSlice 49 (.int .i64 (n : Int)) (.int .i64 (n : Int))).run Tryz.prog W = .ok (.slice (some ⟨W.heap.size, 0, none⟩) n n) (W.alloc (.cells (by8 (noughts n)).toArray 5)) := by
 obtain ⟨i0, hi0, hz0, hz1, hz2⟩ := info_parts u8info
 have h := run_make (P := Tryz.prog) W 49 5 i0 (.int .u8 0) Tryz.underlying49 hi0 hz0 .i64 .i64 (n : Int) (n : Int) (by omega) (by omega) (by rw [hz2]; omega) (by omega)
 rw [hz1, show (Value.int .u8 0).cells = #[.int .u8 0] from rfl, Nat.mul_one, Int.toNat_natCast, made_noughts] at h
 exact h
theorem isName_any (n : List UInt8) (w : World) :
 Calls Tryz.prog 46 #[.string ⟨n.toArray⟩] w fun e w' => e = .returned (.bool (Vf.is n)) ∧ w = w' := by
 cases n with
 | nil =>
   go_enter Tryz.func46, Tryz.ntmps46
   go_wp2
   go_ret
   exact ⟨rfl, rfl⟩
 | cons x r =>
   by_cases h2 : ((x :: r).length : Int) ≤ 255
   ·have H : Hid (Vf.is (x :: r) = true) := Lib.hid (by unfold Vf.is; simp at h2 ⊢; omega)
    go_enter Tryz.func46, Tryz.ntmps46
    go_wp2
    go_ret
    exact ⟨ret_bool (by rw [H.out]; simp at h2 ⊢; try omega), rfl⟩
   ·have H : Hid (Vf.is (x :: r) = false) := Lib.hid (by unfold Vf.is; simp at h2 ⊢; omega)
    go_enter Tryz.func46, Tryz.ntmps46
    go_wp2
    go_ret
    exact ⟨ret_bool (by rw [H.out]; simp at h2 ⊢; try omega), rfl⟩
theorem length_any (ps : List (List UInt8)) (v : Value) (G : Nat → Prop) (w : World) (hp : Vf.Ps w G v ps) (hl : ps.length ≤ 1048576) (ht : ps.flatten.length ≤ 4294967296) :
 Calls Tryz.prog 47 #[v] w fun e w' => e = .returned (.int .i64 (ps.flatten.length : Int)) ∧ w = w' := by
 obtain ⟨A, c, xs, rfl, hc, hcm, hrd, hels⟩ := hp
 unfold maxLen at hcm
 have HR := Lib.hid hrd
 have HE := Lib.hid hels
 have hl' : (ps.length : Int) ≤ 1048576 := by omega
 generalize hT : ps.flatten.length = T at *
 have HT := Lib.hid hT
 clear hrd hels hT
 go_enter Tryz.func47, Tryz.ntmps47
 go_wp2_with fail
 go_loop [3, 8] (fun n i => ∃ (k : Nat) (x : Int), k ≤ ps.length ∧ i = .int .i64 k ∧ n = .int .i64 x ∧ 0 ≤ x ∧ x ≤ 4294967296 ∧ Hid (x = ((ps.take k).flatten.length : Int))) (fun _ i => ps.length - (intOf i).toNat)
 case atStart => exact ⟨0, 0, Nat.zero_le _, rfl, rfl, by omega, by omega, Lib.hid rfl⟩
 case round =>
  obtain ⟨k, x, hk, rfl, rfl, x0, x1, hx⟩ := hrel
  by_cases hlt : k < ps.length
  ·obtain ⟨cs, ⟨v, rfl, hbs⟩, hxx⟩ := HE.out.get Vf.BsC.one k hlt
   have hxl := HE.out.length Vf.BsC.one
   obtain ⟨rb, ro, rfl, hlt2, hg, hcell⟩ := HR.out.lit (k * 1) (by omega)
   obtain ⟨A2, cc, rfl, hc2, hcm2, hrd2⟩ := hbs
   have hcl2 : w.cell? ⟨rb, ro + k, none⟩ = some (.slice A2 (ps[k]).length cc) := by have := hcell _ _ (hxx 0 (by omega)); simpa using this
   have hs := Lib.hid (Vf.flat_take ps k hlt)
   have hle := Vf.flat_le ps (k + 1)
   have hb : x + (ps[k]).length ≤ 4294967296 := by have := hs.out; have := hx.out; have h2 := HT.out; rw [hs.out, List.length_append] at hle; omega
   clear hxx hxl hcell hrd2 hle
   generalize hm : (ps[k]).length = m at *
   have HM := Lib.hid hm
   clear hm
   go_wp2_with fail
   go_round
   case rel => exact ⟨k + 1, _, by omega, by go_num, rfl, by omega, by omega, Lib.hid (by rw [hs.out, List.length_append, HM.out]; have := hx.out; omega)⟩
   case measure => simp [intOf]; omega
  ·obtain rfl : k = ps.length := by omega
   rw [List.take_length] at hx
   go_wp2_with fail
   go_ret
   exact ⟨ret_i64 (by rw [hx.out, HT.out]), rfl⟩
end
section
open Go.RowKit
open Me Vf
theorem vsizeU8 : (Tryz.prog.info? 5).map (·.size) = some 1 := by kernel_rfl
def Vp.Filled (w : World) (db : Nat) (b : List UInt8) (e : Ending) (w' : World) : Prop :=
 e = .returned (.tuple #[]) ∧ w'.heap[db]? = some (.cells (by8 b).toArray 5 (0, 0)) ∧ Kp (fun b => b = db) w w' ∧ w'.heap.size = w.heap.size
theorem fill_any (ps : List (List UInt8)) (pv : Value) (G : Nat → Prop) (w : World) (db off n cc : Nat) (cur : List UInt8) (hdb : w.heap[db]? = some (.cells (by8 cur).toArray 5 (0, 0)))
 (hp : Vf.Ps w G pv ps) (hG : ∀ b, G b → b ≠ db) (hn : ps.flatten.length = n) (hoff : off + n ≤ cur.length) (hcc : n ≤ cc) (hcm : cc ≤ 4294967296) (hl : ps.length ≤ 1048576) :
 Calls Tryz.prog 49 #[.slice (some ⟨db, off, none⟩) n cc, pv] w (Vp.Filled w db (upd cur off ps.flatten)) := by
 obtain ⟨A, c, xs, rfl, hc, hcm', hrd, hels⟩ := hp
 unfold maxLen at hcm'
 have HR := Lib.hid hrd
 have HE := Lib.hid hels
 have HN := Lib.hid hn
 have HG := Lib.hid hG
 have hl' : (ps.length : Int) ≤ 1048576 := by omega
 have HD := Lib.hid hdb
 clear hrd hels hn hG hdb
 go_enter Tryz.func49, Tryz.ntmps49
 go_wp2_with fail
 go_loopw [0, 8] (fun pl i wr => ∃ (k o t r c : Nat), k ≤ ps.length ∧ i = .int .i64 k ∧ .slice (some ⟨db, o, none⟩) r c = pl ∧ t + r = n ∧ t + c = cc ∧ Hid (t = ((ps.take k).flatten).length) ∧ Hid (t < cc → o = off + t) ∧
  Hid (wr.heap[db]? = some (.cells (by8 (upd cur off (ps.take k).flatten)).toArray 5 (0, 0))) ∧ Kp (fun b => b = db) w wr ∧ Hid (wr.heap.size = w.heap.size)) (fun _ i _ => ps.length - (intOf i).toNat)
 case atStart => exact ⟨0, off, 0, n, cc, Nat.zero_le _, rfl, rfl, by omega, by omega, Lib.hid rfl, Lib.hid (fun _ => rfl), Lib.hid (by rw [List.take_zero, List.flatten_nil, Vp.upd_nil]; exact HD.out), Kp.refl _ _, Lib.hid rfl⟩
 case round =>
  obtain ⟨k, o, t, r, c, hk, rfl, rfl, htr, htc, ht, ho, hdb, hkp, hsz⟩ := hrel
  by_cases hlt : k < ps.length
  ·have hR := HR.out.kp hkp (fun i _ hi => HG.out i hi)
   have hE : Els (Vf.BsC wr G) ps xs := HE.out.mono fun b cs hb => hb.keep hkp.size (fun i hi hg => hkp.block i hi (HG.out i hg))
   obtain ⟨cs, ⟨v, rfl, hbs⟩, hx⟩ := hE.get Vf.BsC.one k hlt
   have hxl := hE.length Vf.BsC.one
   obtain ⟨rb, ro, rfl, hlt2, hg, hcell⟩ := hR.lit (k * 1) (by omega)
   have hcl : wr.cell? ⟨rb, ro + k, none⟩ = some v := by have := hcell _ _ (hx 0 (by omega)); simpa using this
   obtain ⟨A2, c2, rfl, hc2, hcm2, hrd2⟩ := hbs
   have HRD := Lib.hid hrd2
   have HF := Lib.hid (Vf.flat_take ps k hlt)
   have hle := Vf.flat_le ps (k + 1)
   rw [HF.out, List.length_append, HN.out, ← ht.out] at hle
   have hpk : t + (ps[k]).length ≤ n := hle
   have HU : Hid (upd (upd cur off (ps.take k).flatten) (off + t) ps[k] = upd cur off (ps.take (k + 1)).flatten) := Lib.hid (by rw [HF.out, ht.out]; exact upd_upd (by rw [← ht.out]; omega))
   have HL : Hid ((upd cur off (ps.take k).flatten).length = cur.length) := Lib.hid (upd_len (by rw [← ht.out]; omega))
   have HP : Hid (0 < (ps[k]).length → some (⟨db, o, none⟩ : Addr) = some ⟨db, off + t, none⟩) := Lib.hid (fun h => by rw [ho.out (by omega)])
   have HB : Hid (0 < (ps[k]).length → o = off + t) := Lib.hid (fun h => ho.out (by omega))
   have HT1 : Hid (t + (ps[k]).length = ((ps.take (k + 1)).flatten).length) := Lib.hid (by rw [HF.out, List.length_append, ← ht.out])
   unfold maxLen at hcm2
   clear hR hE hx hxl hcell hrd2 hle
   generalize hpp : ps[k] = p at *
   clear hpp
   have hpl : p.length ≤ r := by omega
   have hpc : p.length ≤ c := by omega
   have hmin : Hid (p.length = Nat.min p.length r) := Lib.hid (Nat.min_eq_left hpl).symm
   have hfit : Hid (off + t + p.length ≤ (upd cur off (ps.take k).flatten).length) := Lib.hid (by rw [HL.out]; omega)
   have hpl' : (p.length : Int) ≤ (r : Int) := by omega
   have hpc' : (p.length : Int) ≤ (c : Int) := by omega
   go_wp2_with (with_reducible refine wpList_copy_bs rfl (.tmp 13) (.tmp 14) 49 49 rfl 5 Tryz.underlying49 vsizeU8 (some ⟨db, o, none⟩) A2 r c p.length c2 rfl rfl db (off + t) _ p 5 hdb.out hmin.out HP.out G HRD.out hfit.out ?_; intro w1 hd1 hk1 hs1)
   all_goals
    go_roundw
    case rel =>
     refine ⟨k + 1, if c = p.length then o else o + p.length, t + p.length, r - p.length, c - p.length, by omega, by go_num, by split <;> rfl, by omega, by omega, HT1, Lib.hid (fun h => ?_), Lib.hid (by rw [← HU.out]; exact hd1.out), hkp.trans hk1 (fun i _ h => h), Lib.hid (hs1.out.trans hsz.out)⟩
     rw [if_neg (by omega)]
     by_cases h0 : 0 < p.length
     ·have := HB.out h0; omega
     ·have := ho.out (by omega); omega
    case measure => simp [intOf]; omega
  ·obtain rfl : k = ps.length := by omega
   rw [List.take_length] at hdb
   go_wp2_with fail
   ((try simp only [Exit.inBlock, Exit.then]); first | (refine bodyPost_ret (results_none rfl _ _ _) rfl ?_) | (refine bodyPost_end (results_none rfl _ _ _) rfl ?_))
   exact ⟨rfl, hdb.out, hkp, hsz.out⟩
theorem strClone_any (n : List UInt8) (w : World) (hn : n.length ≤ 1048576) :
 Calls Tryz.prog 48 #[.string ⟨n.toArray⟩] w fun e w' => e = .returned (.string ⟨n.toArray⟩) ∧ Below w.heap.size w w' := by
 have HC := Lib.hid (Tryz.stringslite_Clone ⟨n.toArray⟩ w (by show n.toArray.size ≤ _; simp; omega))
 go_enter Tryz.func48, Tryz.ntmps48
 go_wp2_with (go_at_call 86; ((with_reducible refine (HC.out).mono ?_); rintro e w' ⟨rfl, hb⟩))
 go_ret
 exact ⟨rfl, hb⟩
theorem slcClone_any (l : List UInt8) (g o c : Nat) (G : Nat → Prop) (w : World) (hr : Rd w G (some ⟨g, o, none⟩) (by8 l)) (hl : l.length ≤ 4294967296) :
 Calls Tryz.prog 96 #[.slice (some ⟨g, o, none⟩) l.length c] w (Vf.Made w l) := by
 obtain ⟨i0, hi0, hz0, hz1, hz2⟩ := info_parts u8info
 have HI := Lib.hid hi0
 have HZ := Lib.hid (And.intro hz0 (And.intro hz1 hz2))
 clear hi0 hz0 hz1 hz2
 have HR := Lib.hid (hr.keep (w' := w.alloc (.cells #[] 5)) (by simp) (fun b hb _ => Below.heap_alloc w _ b hb))
 clear hr
 have qT : ∀ (w : World) (a : Addr) (n c : Nat), (binOp .eql 49 (.slice (some a) n c) (.slice none 0 0)).run Tryz.prog w = .ok (.bool false) w := fun w a n c => Lib.run_eql_slice_nil w _ _ (some a) n c _ _ Tryz.underlying49
 go_enter Tryz.func96, Tryz.ntmps96
 go_wp2_with (at_builtin; refine wpList_app _ rfl (.tmp 5) (.tmp 6) 49 rfl w.heap.size 5 i0 (.int .u8 0) 1 1 Tryz.underlying49 HI.out HZ.out.1 HZ.out.2.1 HZ.out.2.2 rfl (by decide) (.slice (some ⟨w.heap.size, 0, none⟩) 0 0) 0 [] rfl (owns_empty _ _ _ rfl) G (some ⟨g, o, none⟩) l.length c (by8 l) rfl (by rw [by8_len]; omega) HR.out (by8_one _) (by unfold maxLen; omega) (by omega) (by simp) ?_; intro v1 w1 hown1 hg1 hat1 hnil1)
 go_ret
 rw [Nat.zero_add, List.nil_append] at hown1
 exact ⟨v1, rfl, Bs.own hown1, ((Below.refl _ _).alloc (Nat.le_refl _) _).grown hg1 (by simp) (fun g hg => by simp [Value.ownBlock] at hg; omega)⟩
end
section
open Go.RowKit
open Me Vf
namespace Vp
def ptrR : Value → Option (DataW Unit × List MemPlace)
 | .pointer none => some (.nil, [])
 | .pointer (some ⟨b, 0, none⟩) => some (.lit (.int .i64 (b : Int)), [])
 | _ => none
def enc : Option Nat → DataW Unit
 | none => .nil
 | some b => .lit (.int .i64 (b : Int))
def ptr : Option Nat → Value
 | none => .pointer none
 | some b => .pointer (some ⟨b, 0, none⟩)
theorem ptrR_inv {v : Value} {m : Option Nat} {ps : List MemPlace} (h : ptrR v = some (enc m, ps)) : v = ptr m := by
 unfold ptrR at h
 split at h
 ·cases m with
  | none => rfl
  | some b => simp [enc] at h
 ·cases m with
  | none => simp [enc] at h
  | some b =>
    simp [enc] at h
    have h1 := h.1
    show Value.pointer _ = Value.pointer _
    congr 3
    exact_mod_cast h1
 ·cases h
def Mp (w : World) (mv : Value) (mb : Option Nat) (k : Nat) (m : List UInt8 → Option Nat) : Prop :=
 (mv = .map none ∧ mb = none ∧ ∀ n, m n = none) ∨
 ∃ b D, mv = .map (some b) ∧ mb = some b ∧ w.ownsMap Tryz.prog 9 ptrR b k D ∧ (∀ n, D.atKey (.string n) .nil = enc (m n)) ∧ ∀ n, Maps.has D (.string n) = (m n).isSome
theorem keyS : Maps.Keyed Tryz.prog 9 := Maps.string_keyed Tryz.underlying9
theorem keyN (n : List UInt8) (h : n.length ≤ 1048576) : keyOf Tryz.prog 9 (.string ⟨n.toArray⟩) = some (.string n) := by
 have := Go.WideMaps.keyOf_string_mk (P := Tryz.prog) (k := 9) Tryz.underlying9 (s := ⟨n.toArray⟩) (by show n.toArray.size ≤ _; unfold maxLen; simp; omega)
 simpa using this
theorem zeroP (w : World) : (zeroValue 108).run Tryz.prog w = .ok (.pointer none) w := by kernel_rfl
theorem Mp.look {w : World} {mv : Value} {mb : Option Nat} {k : Nat} {m : List UInt8 → Option Nat} (h : Mp w mv mb k m) {n : List UInt8} (hn : n.length ≤ 1048576) :
 (Instr.lookup 76 mv (.string ⟨n.toArray⟩) false).run Tryz.prog w = .ok (ptr (m n)) w := by
 rcases h with ⟨rfl, _, h⟩ | ⟨b, D, rfl, _, hown, hat, _⟩
 ·have := Maps.look_nil (P := Tryz.prog) (w := w) (t := 76) false keyS Tryz.underlying76 (zeroP w) (keyN n hn)
  rw [h n]
  exact this
 ·obtain ⟨v, ps, hrun, hv⟩ := hown.lookup (t := 76) keyS Tryz.underlying76 (zeroP w) (zd := .nil) (zp := []) rfl (keyN n hn)
  rw [hat n] at hv
  rw [hrun, ptrR_inv hv]
theorem Mp.keep {w w' : World} {mv : Value} {mb : Option Nat} {k : Nat} {m : List UInt8 → Option Nat} (h : Mp w mv mb k m) (hk : ∀ b, mb = some b → w'.heap[b]? = w.heap[b]?) : Mp w' mv mb k m := by
 rcases h with h | ⟨b, D, hmv, hmb, hown, h1, h2⟩
 ·exact .inl h
 ·obtain ⟨es, clock, hb, rest⟩ := hown
  exact .inr ⟨b, D, hmv, hmb, ⟨es, clock, (hk b hmb).trans hb, rest⟩, h1, h2⟩
theorem Mp.lt {w : World} {mv : Value} {mb : Option Nat} {k : Nat} {m : List UInt8 → Option Nat} (h : Mp w mv mb k m) {b : Nat} (hb : mb = some b) : b < w.heap.size ∧ ∃ es clock, w.heap[b]? = some (.map es clock) := by
 rcases h with ⟨_, h, _⟩ | ⟨b', D, hmv, hmb, hown, h1, h2⟩
 ·rw [h] at hb; cases hb
 ·rw [hmb] at hb
  obtain rfl := Option.some.inj hb
  obtain ⟨es, clock, hh, _⟩ := id hown
  exact ⟨hown.lt, es, clock, hh⟩
theorem Mp.stored {w : World} {b k id : Nat} {D : DataW Unit} {m : List UInt8 → Option Nat} {n : List UInt8} (hown : w.ownsMap Tryz.prog 9 ptrR b (k + 1) (D.put (.string n) (enc (some id)))) (hD : Maps.IsMap D)
 (h1 : ∀ n, D.atKey (.string n) .nil = enc (m n)) (h2 : ∀ n, Maps.has D (.string n) = (m n).isSome) : Mp w (.map (some b)) (some b) (k + 1) (setM m n (some id)) := by
 refine .inr ⟨b, _, rfl, rfl, hown, fun x => ?_, fun x => ?_⟩
 ·unfold setM
  by_cases e : x = n
  ·subst e
   rw [if_pos rfl, Maps.atKey_put_same hD (show WideAt.IsKeyLit (.string x) from trivial)]
  ·rw [if_neg e, Maps.atKey_put_other (show Lit.string x ≠ Lit.string n by simpa using e), h1 x]
 ·unfold setM
  by_cases e : x = n
  ·subst e
   rw [if_pos rfl, Maps.has_put_same hD (show WideAt.IsKeyLit (.string x) from trivial)]
   rfl
  ·rw [if_neg e, Maps.has_put_other (show Lit.string x ≠ Lit.string n by simpa using e), h2 x]
end Vp
end
section
open Go.RowKit
open Me Vf
namespace Vp
section
variable {ops : Array Oper} {o : Oper} {a : Act} {w : World} {K : Act → World → Prop} {Q : Exit → Act → World → Prop} {E : Prop}
end
theorem turned_kp {w w' : World} {b : Nat} (h : w.mapTurned w' b) : Kp (fun i => i = b) w w' ∧ w'.heap.size = w.heap.size := by
 have hg := h.grown
 refine ⟨(Kp.refl _ _).grown hg (fun g hg => .inr (Option.some.inj hg).symm), ?_⟩
 obtain ⟨es, clock, es', clock', hb, rfl⟩ := h
 simp [ChangeMaps.setBlock]
def fsC (lv : Value) (room used : Int) (mv : Value) : Obj := .cells #[lv, .int .i64 room, .int .i64 used, mv] 78 (0, 0)
def flC (n : List UInt8) (d len : Nat) : Obj := .cells #[.string ⟨n.toArray⟩, .slice (some ⟨d, 0, none⟩) len len] 112 (0, 0)
theorem fs_cells {w : World} {fs : Nat} {lv mv : Value} {room used : Int} (h : w.heap[fs]? = some (fsC lv room used mv)) :
 w.cell? ⟨fs, 0, none⟩ = some lv ∧ w.cell? ⟨fs, 1, none⟩ = some (.int .i64 room) ∧ w.cell? ⟨fs, 2, none⟩ = some (.int .i64 used) ∧ w.cell? ⟨fs, 3, none⟩ = some mv ∧ (∀ i, w.frozen? ⟨fs, i, none⟩ = false) ∧ fs < w.heap.size := by
 refine ⟨?_, ?_, ?_, ?_, fun i => ?_, (Array.getElem?_eq_some_iff.1 h).1⟩
 ·rw [cell_of_row w fs 0 _ _ _ h]; rfl
 ·rw [cell_of_row w fs 1 _ _ _ h]; rfl
 ·rw [cell_of_row w fs 2 _ _ _ h]; rfl
 ·rw [cell_of_row w fs 3 _ _ _ h]; rfl
 ·simp [World.frozen?, h, fsC]
theorem fl_cells {w : World} {id d len : Nat} {n : List UInt8} (h : w.heap[id]? = some (flC n d len)) :
 w.cell? ⟨id, 0, none⟩ = some (.string ⟨n.toArray⟩) ∧ w.cell? ⟨id, 1, none⟩ = some (.slice (some ⟨d, 0, none⟩) len len) ∧ id < w.heap.size := by
 refine ⟨?_, ?_, (Array.getElem?_eq_some_iff.1 h).1⟩
 ·rw [cell_of_row w id 0 _ _ _ h]; rfl
 ·rw [cell_of_row w id 1 _ _ _ h]; rfl
theorem cells_ne {w : World} {b c : Nat} {x y : Obj} (h1 : w.heap[b]? = some x) (h2 : w.heap[c]? = some y) (h : x ≠ y) : b ≠ c := by
 rintro rfl
 rw [h1] at h2
 exact h (Option.some.inj h2)
theorem heap_cell {w : World} {g i : Nat} {cs : Array Value} {t : TypeId} {fr : Nat × Nat} (h : w.heap[g]? = some (.cells cs t fr)) (u : Value) : (w.setCell ⟨g, i, none⟩ u).heap[g]? = some (.cells (cs.setIfInBounds i u) t fr) := put_heap h u
def Putten (w : World) (fs : Nat) (mb : Option Nat) (k : Nat) (lv : Value) (room used : Int) (m : List UInt8 → Option Nat) (e : Ending) (w' : World) : Prop :=
 e = .returned (.tuple #[]) ∧ ∃ mv' mb', w'.heap[fs]? = some (fsC lv room used mv') ∧ Mp w' mv' mb' k m ∧ Kp (fun b => b = fs ∨ mb = some b) w w' ∧ (mb' = mb ∨ ∃ b, mb' = some b ∧ w.heap.size ≤ b)
theorem put_end {w W1 w2 : World} {fs b : Nat} {mb : Option Nat} {k id : Nat} {lv : Value} {room used u2 : Int} {n : List UInt8} {D : DataW Unit} {m : List UInt8 → Option Nat}
 (hK : Kp (fun i => i = fs ∨ mb = some i) w W1) (hb : mb = some b ∨ (mb = none ∧ w.heap.size ≤ b)) (hfs : W1.heap[fs]? = some (fsC lv room used (.map (some b)))) (hne : fs ≠ b)
 (ht : W1.mapTurned w2 b) (hown : w2.ownsMap Tryz.prog 9 ptrR b (k + 1) (D.put (.string n) (enc (some id)))) (hD : Maps.IsMap D)
 (h1 : ∀ n, D.atKey (.string n) .nil = enc (m n)) (h2 : ∀ n, Maps.has D (.string n) = (m n).isSome) :
 Putten w fs mb (k + 1) lv room u2 (setM m n (some id)) (.returned (.tuple #[])) (w2.setCell ⟨fs, 2, none⟩ (.int .i64 u2)) := by
 obtain ⟨hk2, hs2⟩ := turned_kp ht
 have hf2 : w2.heap[fs]? = some (fsC lv room used (.map (some b))) := (hk2.block fs (Array.getElem?_eq_some_iff.1 hfs).1 hne).trans hfs
 refine ⟨rfl, .map (some b), some b, ?_, ?_, ?_, ?_⟩
 ·rw [heap_cell hf2]; rfl
 ·refine (Mp.stored hown hD h1 h2).keep (fun b' hb' => ?_)
  obtain rfl := Option.some.inj hb'
  exact Below.heap_setCell w2 ⟨fs, 2, none⟩ _ b (Ne.symm hne)
 ·refine (hK.trans hk2 (fun i hi e => ?_)).setCell ⟨fs, 2, none⟩ (.inr (.inl rfl)) _
  subst e
  rcases hb with hb | ⟨_, hb⟩
  ·exact .inr hb
  ·omega
 ·rcases hb with hb | ⟨_, hb⟩
  ·exact .inl hb.symm
  ·exact .inr ⟨b, rfl, hb⟩
theorem Putten.drew {w w' : World} {fs : Nat} {mb : Option Nat} {k : Nat} {lv : Value} {room used : Int} {m : List UInt8 → Option Nat} {e : Ending} (h : Putten w fs mb k lv room used m e w') : Putten w fs mb k lv room used m e w'.drew := by
 obtain ⟨h0, mv', mb', h1, h2, h3, h4⟩ := h
 exact ⟨h0, mv', mb', h1, h2.keep (fun _ _ => rfl), h3.drew, h4⟩
end Vp
theorem put_any {w : World} {fs id d k : Nat} {lv mv : Value} {mb : Option Nat} {room used : Int} {m : List UInt8 → Option Nat} {n : List UInt8} {len : Nat} (hfs : w.heap[fs]? = some (Vp.fsC lv room used mv)) (hm : Vp.Mp w mv mb k m)
 (hfl : w.heap[id]? = some (Vp.flC n d len)) (hn : n.length ≤ 1048576) (hk : k ≤ 4194304) (u0 : -4611686018427387904 ≤ used) (u1 : used ≤ 4611686018427387904) (hl : len ≤ 4294967296) :
 Calls Tryz.prog 50 #[.pointer (some ⟨fs, 0, none⟩), .pointer (some ⟨id, 0, none⟩)] w (Vp.Putten w fs mb (k + 1) lv room (used + len) (Vp.setM m n (some id))) := by
 obtain ⟨c0, c1, c2, c3, cf, fsl⟩ := Vp.fs_cells hfs
 obtain ⟨e0, e1, idl⟩ := Vp.fl_cells hfl
 have qT : ∀ (w : World) (r : Option Nat), (binOp .eql 76 (.map r) (.map none)).run Tryz.prog w = .ok (.bool r.isNone) w := fun w r => run_eql_map_nil w _ _ _ r Tryz.underlying76
 have hmm := @run_makeMap Tryz.prog
 have hne : fs ≠ id := Vp.cells_ne hfs hfl (by intro e; simp [Vp.fsC, Vp.flC] at e)
 have hadd : IntKind.i64.wrap (used + len) = used + len := IntWalk.i64_in _ (by omega)
 have HO : ∀ {W : World} {b : Nat} {D : DataW Unit}, W.ownsMap Tryz.prog 9 Vp.ptrR b k D → Maps.IsMap D := fun h => h.isMap
 have hkm : k < maxLen := by unfold maxLen; omega
 rcases hm with ⟨rfl, rfl, hm0⟩ | ⟨b, D, rfl, rfl, hown, h1, h2⟩
 ·have cf2 := cf 2
  have cf3 := cf 3
  have HFS := Lib.hid hfs
  have HFL := Lib.hid hfl
  clear hfs hfl cf HO
  go_enter Tryz.func50, Tryz.ntmps50
  go_wp2_with fail
  obtain ⟨W1, hW1⟩ : ∃ W1, W1 = (w.setCell ⟨fs, 3, none⟩ (.map (some w.heap.size))).alloc (.map #[] 0) := ⟨_, rfl⟩
  obtain ⟨b, hb⟩ : ∃ b, b = w.heap.size := ⟨_, rfl⟩
  have hsz : (w.setCell ⟨fs, 3, none⟩ (.map (some w.heap.size))).heap.size = w.heap.size := put_size _ _ _
  have hown : W1.ownsMap Tryz.prog 9 Vp.ptrR b k (.map []) := by
   have := (World.ownsMap_made (w.setCell ⟨fs, 3, none⟩ (.map (some w.heap.size))) Tryz.prog 9 Vp.ptrR).mono (Nat.zero_le k)
   rw [hsz, ← hW1, ← hb] at this
   exact this
  have hKw : Kp (fun i => i = fs ∨ (none : Option Nat) = some i) w W1 := by rw [hW1]; exact ((Kp.refl _ w).setCell ⟨fs, 3, none⟩ (.inr (.inl rfl)) _).alloc _
  have hfs1 : W1.heap[fs]? = some (Vp.fsC lv room used (.map (some b))) := by
   rw [hW1, hb, Below.heap_alloc _ _ fs (by rw [hsz]; exact fsl), Vp.heap_cell HFS.out]
   rfl
  have hfl1 : W1.heap[id]? = some (Vp.flC n d len) := (hKw.block id idl (fun e => e.elim (fun e => hne e.symm) (fun e => nomatch e))).trans HFL.out
  obtain ⟨z0, z1, z2, z3, zf, zl⟩ := Vp.fs_cells hfs1
  obtain ⟨y0, y1, yl⟩ := Vp.fl_cells hfl1
  have zf2 := zf 2
  have hnb : fs ≠ b := by omega
  have hib : id ≠ b := by omega
  rw [← hW1, ← hb]
  have HB : Hid (w.heap.size ≤ b) := Lib.hid (by omega)
  obtain ⟨w2, hrun, hown2, ht2⟩ := hown.drew.store (t := 76) Vp.keyS Tryz.underlying76 hkm (Vp.keyN n hn) (show Vp.ptrR (.pointer (some ⟨id, 0, none⟩)) = some (Vp.enc (some id), []) from rfl)
  have hk2 := (Vp.turned_kp ht2).1
  have d2 := (hk2.cell (p := ⟨fs, 2, none⟩) zl hnb).trans z2
  have df := (hk2.frozen (p := ⟨fs, 2, none⟩) zl hnb).trans zf2
  have g1 := (hk2.cell (p := ⟨id, 1, none⟩) yl hib).trans y1
  have HO2 := Lib.hid hown2
  have HT2 := Lib.hid ht2
  have HK := Lib.hid hKw
  have HF1 := Lib.hid hfs1
  have hD : Hid (Maps.IsMap (.map [] : DataW Unit)) := Lib.hid Maps.isMap_empty
  have HA : Hid (∀ n, (DataW.map [] : DataW Unit).atKey (.string n) .nil = Vp.enc (m n)) := Lib.hid (fun n => by rw [hm0 n]; rfl)
  have HH : Hid (∀ n, Maps.has (.map [] : DataW Unit) (.string n) = (m n).isSome) := Lib.hid (fun n => by rw [hm0 n]; rfl)
  clear hown2 ht2 hk2 hown hKw hfs1 hfl1 hW1 hb hsz zf hm0 c0 c1 c2 c3 e0 e1 cf2 cf3
  go_region
  all_goals
   go_wp2_with fail
   go_region
   all_goals
    go_wp2_with fail
    ((try simp only [Exit.inBlock, Exit.then]); first | (refine bodyPost_ret (results_none rfl _ _ _) rfl ?_) | (refine bodyPost_end (results_none rfl _ _ _) rfl ?_))
    exact Vp.Putten.drew (Vp.put_end HK.out.drew (.inr ⟨rfl, HB.out⟩) HF1.out hnb HT2.out HO2.out hD.out HA.out HH.out)
 ·have hown2 := hown
  obtain ⟨es, clock, hbb, _⟩ := hown2
  have hnb : fs ≠ b := Vp.cells_ne hfs hbb (by intro e; simp [Vp.fsC] at e)
  have hib : id ≠ b := Vp.cells_ne hfl hbb (by intro e; simp [Vp.flC] at e)
  have HOW := Lib.hid hown
  have H1 := Lib.hid h1
  have H2 := Lib.hid h2
  have HFS := Lib.hid hfs
  clear hown h1 h2 hfs hfl hbb HO
  have cf2 := cf 2
  clear cf
  obtain ⟨w2, hrun, hown2, ht2⟩ := HOW.out.drew.store (t := 76) Vp.keyS Tryz.underlying76 hkm (Vp.keyN n hn) (show Vp.ptrR (.pointer (some ⟨id, 0, none⟩)) = some (Vp.enc (some id), []) from rfl)
  have hk2 := (Vp.turned_kp ht2).1
  have d2 := (hk2.cell (p := ⟨fs, 2, none⟩) fsl hnb).trans c2
  have df := (hk2.frozen (p := ⟨fs, 2, none⟩) fsl hnb).trans cf2
  have g1 := (hk2.cell (p := ⟨id, 1, none⟩) idl hib).trans e1
  have HO2 := Lib.hid hown2
  have HT2 := Lib.hid ht2
  have hD := Lib.hid HOW.out.isMap
  clear hown2 ht2 hk2
  go_enter Tryz.func50, Tryz.ntmps50
  go_wp2_with fail
  go_region
  all_goals
   go_wp2_with fail
   go_region
   all_goals
    go_wp2_with fail
    ((try simp only [Exit.inBlock, Exit.then]); first | (refine bodyPost_ret (results_none rfl _ _ _) rfl ?_) | (refine bodyPost_end (results_none rfl _ _ _) rfl ?_))
    exact Vp.Putten.drew (Vp.put_end ((Kp.refl _ w).drew) (.inl rfl) HFS.out hnb HT2.out HO2.out hD.out H1.out H2.out)
end
section
open Go.RowKit
open Me Vf
theorem opinfo : (Tryz.prog.info? 117).map (fun i => (i.zero, i.size, i.bytes)) = some (some (.agg #[.int .i64 0, .pointer none, .int .i64 0, .slice none 0 0]), 4, 48) := by kernel_rfl
namespace Vp
def opC (kind : Int) (on at_ : Nat) (old : Value) : List Value := [.int .i64 kind, .pointer (some ⟨on, 0, none⟩), .int .i64 (at_ : Int), old]
theorem row_type {w : World} {base n : Nat} {e : TypeId} {size : Nat} {v : Value} {xs : List Value} (h : w.ownsRow base e size v n xs) {g : Nat} (hg : v.ownBlock = some g) : ∃ cur, w.heap[g]? = some (.cells cur e (0, 0)) := by
 rcases h.2 with ⟨rfl, _⟩ | ⟨g', cap, cur, rfl, _, hh, _⟩
 ·cases hg
 ·have : g' = g := by simpa [Value.ownBlock] using hg
  subst this
  exact ⟨cur, hh⟩
def Noted (w : World) (fs : Nat) (lr : Option Nat) (n : Nat) (ys : List Value) (room used : Int) (mv : Value) (e : Ending) (w' : World) : Prop :=
 e = .returned (.tuple #[]) ∧ ∃ lv' lr', w'.heap[fs]? = some (fsC lv' room used mv) ∧ w'.ownsRow 0 117 4 lv' n ys ∧ lv'.ownBlock = lr' ∧ Kp (fun b => b = fs ∨ lr = some b) w w' ∧ (lr' = lr ∨ ∃ b, lr' = some b ∧ w.heap.size ≤ b)
theorem note_end {w W w2 : World} {fs n : Nat} {lr : Option Nat} {zs : List Value} {room used : Int} {lv mv v2 : Value} (hb : Below w.heap.size w W) (hfs : w.heap[fs]? = some (fsC lv room used mv))
 (hlr : lv.ownBlock = lr) (hne : lr ≠ some fs) (hown : w2.ownsRow 0 117 4 v2 n zs) (hg : W.grownBy w2 lv.ownBlock) (hat : v2.ownBlock = lv.ownBlock ∨ v2.ownBlock = some W.heap.size) :
 Noted w fs lr n zs room used mv (.returned (.tuple #[])) (w2.setCell ⟨fs, 0, none⟩ v2) := by
 have fsl : fs < w.heap.size := (Array.getElem?_eq_some_iff.1 hfs).1
 have hf2 : w2.heap[fs]? = some (fsC lv room used mv) := (hg.block fs (Nat.lt_of_lt_of_le fsl hb.size) (fun e => hne (by rw [← hlr]; exact e.symm))).trans ((hb.block fs fsl).trans hfs)
 refine ⟨rfl, v2, v2.ownBlock, ?_, ?_, rfl, ?_, ?_⟩
 ·rw [heap_cell hf2]; rfl
 ·refine owns_keep hown (fun g hg' => Below.heap_setCell w2 ⟨fs, 0, none⟩ _ g ?_)
  show g ≠ fs
  rintro rfl
  rcases hat with e | e
  ·exact hne (by rw [← hlr, ← e]; exact hg')
  ·rw [hg'] at e
   have := Option.some.inj e
   have := hb.size
   omega
 ·refine ((Kp.of_below hb).grown hg (fun g hg' => ?_)).setCell ⟨fs, 0, none⟩ (.inr (.inl rfl)) _
  exact .inr (.inr (by rw [← hlr]; exact hg'))
 ·rcases hat with e | e
  ·exact .inl (by rw [e, hlr])
  ·exact .inr ⟨_, e, hb.size⟩
end Vp
theorem note_any {w : World} {fs n on at_ : Nat} {lv mv old : Value} {room used kind : Int} {ys : List Value} (hfs : w.heap[fs]? = some (Vp.fsC lv room used mv)) (hown : w.ownsRow 0 117 4 lv n ys) (hn : n ≤ 1048576)
 (hold : ∃ A m c, old = .slice A m c) :
 Calls Tryz.prog 51 #[.pointer (some ⟨fs, 0, none⟩), .agg #[.int .i64 kind, .pointer (some ⟨on, 0, none⟩), .int .i64 (at_ : Int), old]] w (Vp.Noted w fs lv.ownBlock (n + 1) (ys ++ Vp.opC kind on at_ old) room used mv) := by
 obtain ⟨i0, hi0, hz0, hz1, hz2⟩ := info_parts opinfo
 have HI := Lib.hid hi0
 have HZ := Lib.hid (And.intro hz0 (And.intro hz1 hz2))
 clear hi0 hz0 hz1 hz2
 obtain ⟨A, m, c, rfl⟩ := hold
 obtain ⟨c0, c1, c2, c3, cf, fsl⟩ := Vp.fs_cells hfs
 have cf0 := cf 0
 have HFS := Lib.hid hfs
 have hne : lv.ownBlock ≠ some fs := fun e => by
  obtain ⟨cur, hc⟩ := Vp.row_type hown e
  exact Vp.cells_ne hfs hc (by intro e; simp [Vp.fsC] at e) rfl
 have HNE := Lib.hid hne
 have HO : ∀ o o' : Obj, ((w.alloc o).alloc o').ownsRow 0 117 4 lv n ys := fun o o' => (hown.alloc o).alloc o'
 have HOW := Lib.hid (HO (.cells #[.int .i64 kind, .pointer (some ⟨on, 0, none⟩), .int .i64 (at_ : Int), .slice A m c] 117) (.cells #[.int .i64 kind, .pointer (some ⟨on, 0, none⟩), .int .i64 (at_ : Int), .slice A m c] 117))
 have HBW : Hid (Below w.heap.size w ((w.alloc (.cells #[.int .i64 kind, .pointer (some ⟨on, 0, none⟩), .int .i64 (at_ : Int), .slice A m c] 117)).alloc (.cells #[.int .i64 kind, .pointer (some ⟨on, 0, none⟩), .int .i64 (at_ : Int), .slice A m c] 117))) := Lib.hid (((Below.refl _ _).alloc (Nat.le_refl _) _).alloc (by simp) _)
 have HRD := Lib.hid (Rd.fresh (w.alloc (.cells #[.int .i64 kind, .pointer (some ⟨on, 0, none⟩), .int .i64 (at_ : Int), .slice A m c] 117)) [.int .i64 kind, .pointer (some ⟨on, 0, none⟩), .int .i64 (at_ : Int), .slice A m c] 117 (w.heap.size + 1) (by simp))
 clear hfs hown hne HO cf
 go_enter Tryz.func51, Tryz.ntmps51
 go_wp2_with fail
 go_region_law (refine step_app _ rfl (.tmp 8) (.tmp 10) 73 rfl 0 117 i0 _ 4 48 Tryz.underlying73 HI.out HZ.out.1 HZ.out.2.1 HZ.out.2.2 rfl (by decide) lv n ys (by simp [Act.eval]) HOW.out (fun b => b = w.heap.size + 1) (some ⟨w.heap.size + 1, 0, none⟩) 1 1 [.int .i64 kind, .pointer (some ⟨on, 0, none⟩), .int .i64 (at_ : Int), .slice A m c] (by simp [Act.eval]) (by simp) HRD.out (by intro u hu; simp at hu; rcases hu with rfl | rfl | rfl | rfl <;> rfl) (by unfold maxLen; omega) (by omega) (Nat.zero_le _) ?_; intro v2 w2 hown2 hg2 hat2 hnil2; obtain ⟨g2, cap2, rfl⟩ := owns_form hown2 (by omega); have d0 : w2.cell? ⟨fs, 0, none⟩ = some lv := (hg2.cell_far ⟨fs, 0, none⟩ (by show fs < _; simp; omega) (fun e => HNE.out e.symm)).trans ((HBW.out.cell (p := ⟨fs, 0, none⟩) fsl).trans c0); have df : w2.frozen? ⟨fs, 0, none⟩ = false := (hg2.frozen_far ⟨fs, 0, none⟩ (by show fs < _; simp; omega) (fun e => HNE.out e.symm)).trans ((HBW.out.frozen (p := ⟨fs, 0, none⟩) fsl).trans cf0); have HO2 := Lib.hid hown2; have HG2 := Lib.hid hg2; have HA2 := Lib.hid hat2; clear hown2 hg2 hat2 hnil2)
 all_goals
  go_wp2_with fail
  ((try simp only [Exit.inBlock, Exit.then]); first | (refine bodyPost_ret (results_none rfl _ _ _) rfl ?_) | (refine bodyPost_end (results_none rfl _ _ _) rfl ?_))
  exact Vp.note_end HBW.out HFS.out rfl HNE.out HO2.out ⟨HG2.out.os, HG2.out.tape, HG2.out.output, HG2.out.size, HG2.out.block⟩ HA2.out
end
section
open Go.RowKit
open Me Vf
namespace Vp
theorem own_form {w : World} {base n : Nat} {e : TypeId} {size : Nat} {v : Value} {xs : List Value} (h : w.ownsRow base e size v n xs) : ∃ A c, v = .slice A n c ∧ n ≤ c ∧ c ≤ maxLen := by
 rcases h.2 with ⟨rfl, h0⟩ | ⟨g, cap, cur, rfl, _, _, h1, h2, _⟩
 ·exact ⟨none, 0, by rw [h0], by omega, Nat.zero_le _⟩
 ·exact ⟨_, cap, rfl, h1, h2⟩
end Vp
theorem count_any {w : World} {fs n : Nat} {lv mv : Value} {room used : Int} {ys : List Value} (hfs : w.heap[fs]? = some (Vp.fsC lv room used mv)) (hown : w.ownsRow 0 117 4 lv n ys) (hn : n ≤ 1048576) :
 Calls Tryz.prog 83 #[.pointer (some ⟨fs, 0, none⟩)] w fun e w' => e = .returned (.int .i64 (n : Int)) ∧ w = w' := by
 obtain ⟨c0, c1, c2, c3, cf, fsl⟩ := Vp.fs_cells hfs
 obtain ⟨A, c, rfl, hc, hcm⟩ := Vp.own_form hown
 have hn' : (n : Int) ≤ 1048576 := by omega
 clear hfs hown cf c1 c2 c3
 go_enter Tryz.func83, Tryz.ntmps83
 go_wp2_with fail
 go_ret
 exact ⟨rfl, rfl⟩
def Vp.Forgot (w : World) (fs : Nat) (room used : Int) (mv : Value) (e : Ending) (w' : World) : Prop :=
 e = .returned (.tuple #[]) ∧ w'.heap[fs]? = some (Vp.fsC (.slice none 0 0) room used mv) ∧ Kp (fun b => b = fs) w w'
theorem forget_any {w : World} {fs : Nat} {lv mv : Value} {room used : Int} (hfs : w.heap[fs]? = some (Vp.fsC lv room used mv)) (hl : ∃ A n c, lv = .slice A n c) :
 Calls Tryz.prog 73 #[.pointer (some ⟨fs, 0, none⟩)] w (Vp.Forgot w fs room used mv) := by
 obtain ⟨c0, c1, c2, c3, cf, fsl⟩ := Vp.fs_cells hfs
 obtain ⟨A, n, c, rfl⟩ := hl
 have cf0 := cf 0
 have HFS := Lib.hid hfs
 clear hfs cf c1 c2 c3
 go_enter Tryz.func73, Tryz.ntmps73
 go_wp2_with fail
 ((try simp only [Exit.inBlock, Exit.then]); first | (refine bodyPost_ret (results_none rfl _ _ _) rfl ?_) | (refine bodyPost_end (results_none rfl _ _ _) rfl ?_))
 refine ⟨rfl, ?_, (Kp.refl (fun b => b = fs) w).setCell ⟨fs, 0, none⟩ (.inr rfl) _⟩
 rw [Vp.heap_cell HFS.out]
 rfl
theorem find_bad {w : World} (fs : Nat) (n : List UInt8) (hi : Vf.is n = false) :
 Calls Tryz.prog 82 #[.pointer (some ⟨fs, 0, none⟩), .string ⟨n.toArray⟩] w fun e w' => e = .returned (.tuple #[.pointer none, .int .i64 1]) ∧ w = w' := by
 have HI := Lib.hid (isName_any n w)
 rw [hi] at HI
 go_enter Tryz.func82, Tryz.ntmps82
 go_wp2_with (go_at_call 46; ((with_reducible refine (HI.out).mono ?_); rintro e w' ⟨rfl, rfl⟩))
 ((try simp only [Exit.inBlock, Exit.then]); refine bodyPost_ret (results_tmp2 rfl _ _ _) rfl ?_)
 exact ⟨rfl, rfl⟩
theorem find_none {w : World} {fs k : Nat} {lv mv : Value} {mb : Option Nat} {room used : Int} {m : List UInt8 → Option Nat} (hfs : w.heap[fs]? = some (Vp.fsC lv room used mv)) (hm : Vp.Mp w mv mb k m) (n : List UInt8) (hi : Vf.is n = true) (hn : m n = none) :
 Calls Tryz.prog 82 #[.pointer (some ⟨fs, 0, none⟩), .string ⟨n.toArray⟩] w fun e w' => e = .returned (.tuple #[.pointer none, .int .i64 5]) ∧ w = w' := by
 have HI := Lib.hid (isName_any n w)
 rw [hi] at HI
 obtain ⟨c0, c1, c2, c3, cf, fsl⟩ := Vp.fs_cells hfs
 have hl : n.length ≤ 1048576 := by unfold Vf.is at hi; simp at hi; omega
 have hlook := hm.look hl
 rw [hn] at hlook
 unfold Vp.ptr at hlook
 clear hfs hm hi hn cf c0 c1 c2
 go_enter Tryz.func82, Tryz.ntmps82
 go_wp2_with (go_at_call 46; ((with_reducible refine (HI.out).mono ?_); rintro e w' ⟨rfl, rfl⟩))
 ((try simp only [Exit.inBlock, Exit.then]); refine bodyPost_ret (results_tmp2 rfl _ _ _) rfl ?_)
 exact ⟨rfl, rfl⟩
theorem find_some {w : World} {fs k id : Nat} {lv mv : Value} {mb : Option Nat} {room used : Int} {m : List UInt8 → Option Nat} (hfs : w.heap[fs]? = some (Vp.fsC lv room used mv)) (hm : Vp.Mp w mv mb k m) (n : List UInt8) (hi : Vf.is n = true) (hn : m n = some id) :
 Calls Tryz.prog 82 #[.pointer (some ⟨fs, 0, none⟩), .string ⟨n.toArray⟩] w fun e w' => e = .returned (.tuple #[.pointer (some ⟨id, 0, none⟩), .int .i64 0]) ∧ w = w' := by
 have HI := Lib.hid (isName_any n w)
 rw [hi] at HI
 obtain ⟨c0, c1, c2, c3, cf, fsl⟩ := Vp.fs_cells hfs
 have hl : n.length ≤ 1048576 := by unfold Vf.is at hi; simp at hi; omega
 have hlook := hm.look hl
 rw [hn] at hlook
 unfold Vp.ptr at hlook
 clear hfs hm hi hn cf c0 c1 c2
 go_enter Tryz.func82, Tryz.ntmps82
 go_wp2_with (go_at_call 46; ((with_reducible refine (HI.out).mono ?_); rintro e w' ⟨rfl, rfl⟩))
 ((try simp only [Exit.inBlock, Exit.then]); refine bodyPost_ret (results_tmp2 rfl _ _ _) rfl ?_)
 exact ⟨rfl, rfl⟩
end
section
open Go.RowKit
open Me Vf
namespace Vp
def OpC (w : World) (G : Nat → Prop) (o : Op) (cs : List Value) : Prop := ∃ v, cs = opC o.kind o.on o.at_ v ∧ Bs w G v o.old
def btC (b : List UInt8) : Obj := .cells (by8 b).toArray 5 (0, 0)
structure Pt (w : World) (fs : Nat) (mb lr : Option Nat) (I : Nat → Prop) (db : Nat → Nat) (G : Nat → Prop) (room : Int) (c : Co) (j : List Op) (N : Nat) (lv mv : Value) (ys : List Value) : Prop where
 heap : w.heap[fs]? = some (fsC lv room c.used mv)
 map : ∃ k, k + j.length ≤ N ∧ Mp w mv mb k c.map
 file : ∀ id, I id → w.heap[id]? = some (flC (c.sto id).name (db id) (c.sto id).b.length) ∧ w.heap[db id]? = some (btC (c.sto id).b) ∧ (c.sto id).name.length ≤ 255 ∧ (c.sto id).b.length ≤ 1073741824
 inj : ∀ i i', I i → I i' → db i = db i' → i = i'
 own : w.ownsRow 0 117 4 lv j.length ys
 ops : Els (OpC w G) j.reverse ys
 row : lv.ownBlock = lr
 live : Live I c j
 some_ : j ≠ [] → ∃ b, mb = some b
 g : ∀ b, G b → b < w.heap.size ∧ b ≠ fs ∧ mb ≠ some b ∧ lr ≠ some b ∧ ¬ I b ∧ ∀ i, I i → db i ≠ b
def Own (fs : Nat) (mb lr : Option Nat) (I : Nat → Prop) (db : Nat → Nat) (G : Nat → Prop) (b : Nat) : Prop := b = fs ∨ mb = some b ∨ lr = some b ∨ I b ∨ (∃ i, I i ∧ db i = b) ∨ G b
section
variable {w w' : World} {fs : Nat} {mb lr : Option Nat} {I : Nat → Prop} {db : Nat → Nat} {G : Nat → Prop} {room : Int} {c : Co} {j : List Op} {N : Nat} {lv mv : Value} {ys : List Value}
theorem fs_ne_fl {lv mv : Value} {r u : Int} {n : List UInt8} {d l : Nat} : fsC lv r u mv ≠ flC n d l := by intro e; simp [fsC, flC] at e
theorem fs_ne_bt {lv mv : Value} {r u : Int} {b : List UInt8} : fsC lv r u mv ≠ btC b := by intro e; simp [fsC, btC] at e
theorem fl_ne_bt {n : List UInt8} {d l : Nat} {b : List UInt8} : flC n d l ≠ btC b := by intro e; simp [flC, btC] at e
theorem fs_ne_op {lv mv : Value} {r u : Int} {cs : Array Value} : fsC lv r u mv ≠ .cells cs 117 (0, 0) := by intro e; simp [fsC] at e
theorem fl_ne_op {n : List UInt8} {d l : Nat} {cs : Array Value} : flC n d l ≠ .cells cs 117 (0, 0) := by intro e; simp [flC] at e
theorem bt_ne_op {b : List UInt8} {cs : Array Value} : btC b ≠ .cells cs 117 (0, 0) := by intro e; simp [btC] at e
theorem fs_ne_map {lv mv : Value} {r u : Int} {es : Array MapEntry} {k : Nat} : fsC lv r u mv ≠ .map es k := by intro e; simp [fsC] at e
theorem fl_ne_map {n : List UInt8} {d l : Nat} {es : Array MapEntry} {k : Nat} : flC n d l ≠ .map es k := by intro e; simp [flC] at e
theorem bt_ne_map {b : List UInt8} {es : Array MapEntry} {k : Nat} : btC b ≠ .map es k := by intro e; simp [btC] at e
theorem op_ne_map {cs : Array Value} {es : Array MapEntry} {k : Nat} : (Obj.cells cs 117 (0, 0)) ≠ .map es k := by intro e; cases e
theorem Pt.rowC (h : Pt w fs mb lr I db G room c j N lv mv ys) {b : Nat} (hb : lr = some b) : ∃ cur, w.heap[b]? = some (.cells cur 117 (0, 0)) := row_type h.own (h.row.trans hb)
theorem Pt.mapC (h : Pt w fs mb lr I db G room c j N lv mv ys) {b : Nat} (hb : mb = some b) : ∃ es k, w.heap[b]? = some (.map es k) := by
 obtain ⟨k, _, hm⟩ := h.map
 exact (hm.lt hb).2
theorem Pt.fs_row (h : Pt w fs mb lr I db G room c j N lv mv ys) : lr ≠ some fs := fun e => by
 obtain ⟨cur, hc⟩ := h.rowC e
 exact cells_ne h.heap hc fs_ne_op rfl
theorem Pt.fs_map (h : Pt w fs mb lr I db G room c j N lv mv ys) : mb ≠ some fs := fun e => by
 obtain ⟨es, k, hc⟩ := h.mapC e
 exact cells_ne h.heap hc fs_ne_map rfl
theorem Pt.row_map (h : Pt w fs mb lr I db G room c j N lv mv ys) {b : Nat} (e : lr = some b) : mb ≠ some b := fun e2 => by
 obtain ⟨es, k, hc⟩ := h.mapC e2
 obtain ⟨cur, hc2⟩ := h.rowC e
 exact cells_ne hc2 hc op_ne_map rfl
theorem Pt.fl (h : Pt w fs mb lr I db G room c j N lv mv ys) {b : Nat} (hb : I b) : b ≠ fs ∧ mb ≠ some b ∧ lr ≠ some b ∧ ∀ i, I i → db i ≠ b := by
 have hf := (h.file b hb).1
 refine ⟨fun e => cells_ne h.heap hf fs_ne_fl e.symm, fun e => ?_, fun e => ?_, fun i hi e => ?_⟩
 ·obtain ⟨es, k, hc⟩ := h.mapC e
  exact cells_ne hf hc fl_ne_map rfl
 ·obtain ⟨cur, hc⟩ := h.rowC e
  exact cells_ne hf hc fl_ne_op rfl
 ·have h2 := (h.file i hi).2.1
  exact cells_ne hf h2 fl_ne_bt e.symm
theorem Pt.bt (h : Pt w fs mb lr I db G room c j N lv mv ys) {i : Nat} (hi : I i) : db i ≠ fs ∧ mb ≠ some (db i) ∧ lr ≠ some (db i) ∧ ¬ I (db i) := by
 have hf := (h.file i hi).2.1
 refine ⟨fun e => cells_ne h.heap hf fs_ne_bt e.symm, fun e => ?_, fun e => ?_, fun e => ?_⟩
 ·obtain ⟨es, k, hc⟩ := h.mapC e
  exact cells_ne hf hc bt_ne_map rfl
 ·obtain ⟨cur, hc⟩ := h.rowC e
  exact cells_ne hf hc bt_ne_op rfl
 ·exact cells_ne (h.file (db i) e).1 hf fl_ne_bt rfl
theorem Pt.lt (h : Pt w fs mb lr I db G room c j N lv mv ys) {b : Nat} (hb : Own fs mb lr I db G b) : b < w.heap.size := by
 rcases hb with rfl | hb | hb | hb | ⟨i, hi, rfl⟩ | hb
 ·exact (Array.getElem?_eq_some_iff.1 h.heap).1
 ·obtain ⟨es, k, hc⟩ := h.mapC hb
  exact (Array.getElem?_eq_some_iff.1 hc).1
 ·obtain ⟨cur, hc⟩ := h.rowC hb
  exact (Array.getElem?_eq_some_iff.1 hc).1
 ·exact (Array.getElem?_eq_some_iff.1 (h.file b hb).1).1
 ·exact (Array.getElem?_eq_some_iff.1 (h.file i hi).2.1).1
 ·exact (h.g b hb).1
theorem OpC.keep {w w' : World} {G : Nat → Prop} (hs : w.heap.size ≤ w'.heap.size) (hk : ∀ i, i < w.heap.size → G i → w'.heap[i]? = w.heap[i]?) (o : Op) (cs : List Value) (h : OpC w G o cs) : OpC w' G o cs := by
 obtain ⟨v, e, hb⟩ := h
 exact ⟨v, e, hb.keep hs hk⟩
theorem OpC.wide {w : World} {G G' : Nat → Prop} (hG : ∀ i, i < w.heap.size → G i → G' i) (o : Op) (cs : List Value) (h : OpC w G o cs) : OpC w G' o cs := by
 obtain ⟨v, e, hb⟩ := h
 exact ⟨v, e, hb.mono hG⟩
theorem Mp.some_ {w : World} {mv : Value} {mb : Option Nat} {k : Nat} {m : List UInt8 → Option Nat} (h : Mp w mv mb k m) {n : List UInt8} {id : Nat} (e : m n = some id) : ∃ b, mb = some b := by
 rcases h with ⟨_, _, h⟩ | ⟨b, _, _, hb, _⟩
 ·rw [h n] at e; cases e
 ·exact ⟨b, hb⟩
theorem Pt.kp (h : Pt w fs mb lr I db G room c j N lv mv ys) {O : Nat → Prop} (k : Kp O w w') (hO : ∀ b, O b → ¬ Own fs mb lr I db G b) : Pt w' fs mb lr I db G room c j N lv mv ys := by
 have hk : ∀ b, Own fs mb lr I db G b → w'.heap[b]? = w.heap[b]? := fun b hb => k.block b (h.lt hb) (fun o => hO b o hb)
 obtain ⟨kk, hkk, hm⟩ := h.map
 refine ⟨(hk fs (.inl rfl)).trans h.heap, ⟨kk, hkk, hm.keep (fun b hb => hk b (.inr (.inl hb)))⟩, fun id hid => ?_, h.inj, owns_keep h.own (fun g hg => hk g (.inr (.inr (.inl (h.row.symm.trans hg))))), h.ops.mono (OpC.keep k.size (fun b _ hb => hk b (.inr (.inr (.inr (.inr (.inr hb))))))), h.row, h.live, h.some_, fun b hb => ?_⟩
 ·obtain ⟨h1, h2, h3⟩ := h.file id hid
  exact ⟨(hk id (.inr (.inr (.inr (.inl hid))))).trans h1, (hk (db id) (.inr (.inr (.inr (.inr (.inl ⟨id, hid, rfl⟩)))))).trans h2, h3⟩
 ·obtain ⟨h1, h2⟩ := h.g b hb
  exact ⟨Nat.lt_of_lt_of_le h1 k.size, h2⟩
theorem Pt.below (h : Pt w fs mb lr I db G room c j N lv mv ys) (b : Below w.heap.size w w') : Pt w' fs mb lr I db G room c j N lv mv ys := h.kp (O := fun _ => False) (Kp.of_below b) (fun _ o => o.elim)
theorem Pt.more (h : Pt w fs mb lr I db G room c j N lv mv ys) {N' : Nat} (hN : N ≤ N') : Pt w fs mb lr I db G room c j N' lv mv ys := by
 obtain ⟨k, hk, hm⟩ := h.map
 exact ⟨h.heap, ⟨k, by omega, hm⟩, h.file, h.inj, h.own, h.ops, h.row, h.live, h.some_, h.g⟩
theorem Pt.form (h : Pt w fs mb lr I db G room c j N lv mv ys) : ∃ A n c, lv = .slice A n c := by
 obtain ⟨A, c, e, _⟩ := own_form h.own
 exact ⟨A, _, c, e⟩
theorem Pt.putten (h : Pt w fs mb lr I db G room c j N lv mv ys) {k' N' : Nat} {u' : Int} {m' : List UInt8 → Option Nat} {e : Ending} (hp : Putten w fs mb k' lv room u' m' e w') (hN : k' + j.length ≤ N') (hL : Live I ⟨m', c.sto, u'⟩ j) :
 ∃ mb' mv', Pt w' fs mb' lr I db G room ⟨m', c.sto, u'⟩ j N' lv mv' ys ∧ Kp (fun b => b = fs ∨ mb = some b) w w' ∧ (mb' = mb ∨ ∃ b, mb' = some b ∧ w.heap.size ≤ b) := by
 obtain ⟨_, mv', mb', h1, h2, h3, h4⟩ := hp
 have hmb : ∀ b, b < w.heap.size → mb ≠ some b → mb' ≠ some b := fun b hb hn e => by
  rcases h4 with h4 | ⟨b', e2, h4⟩
  ·exact hn (h4.symm.trans e)
  ·rw [e] at e2
   have := Option.some.inj e2
   omega
 have hI : ∀ id, I id → w'.heap[id]? = w.heap[id]? := fun id hid => h3.block id (h.lt (.inr (.inr (.inr (.inl hid))))) (fun e => e.elim (h.fl hid).1 (h.fl hid).2.1)
 have hD : ∀ id, I id → w'.heap[db id]? = w.heap[db id]? := fun id hid => h3.block _ (h.lt (.inr (.inr (.inr (.inr (.inl ⟨id, hid, rfl⟩)))))) (fun e => e.elim (h.bt hid).1 (h.bt hid).2.1)
 refine ⟨mb', mv', ⟨h1, ⟨k', hN, h2⟩, fun id hid => ?_, h.inj, owns_keep h.own (fun g hg => ?_), h.ops.mono (OpC.keep h3.size (fun b hb hg => h3.block b hb (fun e => e.elim (h.g b hg).2.1 (h.g b hg).2.2.1))), h.row, hL, fun hj => ?_, fun b hb => ?_⟩, h3, h4⟩
 ·obtain ⟨f1, f2, f3⟩ := h.file id hid
  exact ⟨(hI id hid).trans f1, (hD id hid).trans f2, f3⟩
 ·have hg2 := h.row.symm.trans hg
  exact h3.block g (h.lt (.inr (.inr (.inl hg2)))) (fun e => e.elim (fun e => h.fs_row (e ▸ hg2)) (h.row_map hg2))
 ·obtain ⟨b, hb⟩ := h.some_ hj
  rcases h4 with h4 | ⟨b', e2, _⟩
  ·exact ⟨b, h4.trans hb⟩
  ·exact ⟨b', e2⟩
 ·obtain ⟨g1, g2, g3, g4⟩ := h.g b hb
  exact ⟨Nat.lt_of_lt_of_le g1 h3.size, g2, hmb b g1 g3, g4⟩
theorem Pt.noted (h : Pt w fs mb lr I db G room c j N lv mv ys) {o : Op} {old : Value} {G' : Nat → Prop} {e : Ending} (hp : Noted w fs lr (j.length + 1) (ys ++ opC o.kind o.on o.at_ old) room c.used mv e w') (hI : I o.on) (hsome : ∃ b, mb = some b)
 (hold : Bs w G' old o.old) (hG : ∀ b, G b → G' b) (hG' : ∀ b, G' b → b < w.heap.size ∧ b ≠ fs ∧ mb ≠ some b ∧ lr ≠ some b ∧ ¬ I b ∧ ∀ i, I i → db i ≠ b) :
 ∃ lr' lv' ys', Pt w' fs mb lr' I db G' room c (o :: j) (N + 1) lv' mv ys' ∧ Kp (fun b => b = fs ∨ lr = some b) w w' ∧ (lr' = lr ∨ ∃ b, lr' = some b ∧ w.heap.size ≤ b) := by
 obtain ⟨_, lv', lr', h1, h2, hlr, h3, h4⟩ := hp
 have hlrne : ∀ b, b < w.heap.size → lr ≠ some b → lr' ≠ some b := fun b hb hn e => by
  rcases h4 with h4 | ⟨b', e2, h4⟩
  ·exact hn (h4.symm.trans e)
  ·rw [e] at e2
   have := Option.some.inj e2
   omega
 obtain ⟨k, hk, hm⟩ := h.map
 have hIk : ∀ id, I id → w'.heap[id]? = w.heap[id]? := fun id hid => h3.block id (h.lt (.inr (.inr (.inr (.inl hid))))) (fun e => e.elim (h.fl hid).1 (h.fl hid).2.2.1)
 have hDk : ∀ id, I id → w'.heap[db id]? = w.heap[db id]? := fun id hid => h3.block _ (h.lt (.inr (.inr (.inr (.inr (.inl ⟨id, hid, rfl⟩)))))) (fun e => e.elim (h.bt hid).1 (h.bt hid).2.2.1)
 have hGk : ∀ b, b < w.heap.size → G' b → w'.heap[b]? = w.heap[b]? := fun b hb hg => h3.block b hb (fun e => e.elim (hG' b hg).2.1 (hG' b hg).2.2.2.1)
 refine ⟨lr', lv', _, ⟨h1, ⟨k, by simp only [List.length_cons]; omega, hm.keep (fun b hb => ?_)⟩, fun id hid => ?_, h.inj, h2, ?_, hlr, ⟨h.live.1, fun o' ho => ?_⟩, fun _ => hsome, fun b hb => ?_⟩, h3, h4⟩
 ·refine h3.block b (hm.lt hb).1 (fun e => e.elim (fun e => h.fs_map (e ▸ hb)) (fun e => h.row_map e hb))
 ·obtain ⟨f1, f2, f3⟩ := h.file id hid
  exact ⟨(hIk id hid).trans f1, (hDk id hid).trans f2, f3⟩
 ·rw [List.reverse_cons]
  refine Els.append (h.ops.mono fun o' cs hc => ?_) (Els.one ⟨old, rfl, hold.keep h3.size hGk⟩)
  exact (hc.wide (fun b _ hg => hG b hg)).keep h3.size hGk
 ·rcases List.mem_cons.1 ho with rfl | ho
  ·exact hI
  ·exact h.live.2 o' ho
 ·obtain ⟨g1, g2, g3, g4, g5⟩ := hG' b hb
  exact ⟨Nat.lt_of_lt_of_le g1 h3.size, g2, g3, hlrne b g1 g4, g5⟩
theorem Pt.filled (h : Pt w fs mb lr I db G room c j N lv mv ys) {id o : Nat} {b : List UInt8} (hid : I id) (hlen : o + b.length ≤ (c.sto id).b.length) (hd : w'.heap[db id]? = some (btC (upd (c.sto id).b o b))) (hk : Kp (fun i => i = db id) w w') :
 Pt w' fs mb lr I db G room (c.over id o b) j N lv mv ys := by
 have hs : ∀ i, i ≠ id → (c.over id o b).sto i = c.sto i := fun i hi => by show setS c.sto id _ i = _; unfold setS; rw [if_neg hi]
 have h0 : (c.over id o b).sto id = ⟨(c.sto id).name, upd (c.sto id).b o b⟩ := setS_same _ _ _
 have hbl : (upd (c.sto id).b o b).length = (c.sto id).b.length := upd_len hlen
 obtain ⟨k, hkk, hm⟩ := h.map
 refine ⟨(hk.block fs (h.lt (.inl rfl)) (fun e => (h.bt hid).1 e.symm)).trans h.heap, ⟨k, hkk, hm.keep (fun b' hb' => hk.block b' (hm.lt hb').1 (fun e => (h.bt hid).2.1 (e ▸ hb')))⟩, fun i hi => ?_, h.inj, owns_keep h.own (fun g hg => ?_), h.ops.mono (OpC.keep hk.size (fun b' hb' hg => hk.block b' hb' (fun e => (h.g b' hg).2.2.2.2.2 id hid e.symm))), h.row, h.live, h.some_, fun b' hb' => ?_⟩
 ·obtain ⟨f1, f2, f3, f4⟩ := h.file i hi
  have hib : w'.heap[i]? = w.heap[i]? := hk.block i (h.lt (.inr (.inr (.inr (.inl hi))))) (fun e => (h.bt hid).2.2.2 (e ▸ hi))
  by_cases e : i = id
  ·subst e
   rw [h0]
   simp only [hbl]
   exact ⟨hib.trans f1, hd, f3, f4⟩
  ·rw [hs i e]
   exact ⟨hib.trans f1, (hk.block _ (h.lt (.inr (.inr (.inr (.inr (.inl ⟨i, hi, rfl⟩)))))) (fun e2 => e (h.inj i id hi hid e2))).trans f2, f3, f4⟩
 ·have hg2 := h.row.symm.trans hg
  exact hk.block g (h.lt (.inr (.inr (.inl hg2)))) (fun e => (h.bt hid).2.2.1 (e ▸ hg2))
 ·obtain ⟨g1, g2⟩ := h.g b' hb'
  exact ⟨Nat.lt_of_lt_of_le g1 hk.size, g2⟩
theorem Pt.laid (h : Pt w fs mb lr I db G room c j N lv mv ys) {id d : Nat} {f : Fl} (hk : Below w.heap.size w w') (hid : w.heap.size ≤ id) (hd : w.heap.size ≤ d)
 (hf : w'.heap[id]? = some (flC f.name d f.b.length)) (hb : w'.heap[d]? = some (btC f.b)) (hn : f.name.length ≤ 255) (hl : f.b.length ≤ 1073741824) :
 Pt w' fs mb lr (fun i => I i ∨ i = id) (fun i => if i = id then d else db i) G room (c.lay id f) j N lv mv ys := by
 have h' := h.below hk
 have hIlt : ∀ i, I i → i ≠ id := fun i hi e => by have := h.lt (.inr (.inr (.inr (.inl hi)))); omega
 have hdlt : ∀ i, I i → db i ≠ d := fun i hi e => by have := h.lt (.inr (.inr (.inr (.inr (.inl ⟨i, hi, rfl⟩))))); omega
 have hs : ∀ i, i ≠ id → (c.lay id f).sto i = c.sto i := fun i hi => by show setS c.sto id _ i = _; unfold setS; rw [if_neg hi]
 have h0 : (c.lay id f).sto id = f := setS_same _ _ _
 refine ⟨h'.heap, h'.map, fun i hi => ?_, fun i i' hi hi' e => ?_, h'.own, h'.ops, h'.row, ⟨fun n i e => .inl (h.live.1 n i e), fun o ho => .inl (h.live.2 o ho)⟩, h.some_, fun b hb' => ?_⟩
 ·rcases hi with hi | rfl
  ·rw [hs i (hIlt i hi), if_neg (hIlt i hi)]
   exact h'.file i hi
  ·rw [h0, if_pos rfl]
   exact ⟨hf, hb, hn, hl⟩
 ·rcases hi with hi | rfl <;> rcases hi' with hi' | rfl
  ·simp only [if_neg (hIlt i hi), if_neg (hIlt i' hi')] at e
   exact h.inj i i' hi hi' e
  ·simp only [if_neg (hIlt i hi), if_pos] at e
   exact absurd e (hdlt i hi)
  ·simp only [if_neg (hIlt i' hi'), if_pos] at e
   exact absurd e.symm (hdlt i' hi')
  ·rfl
 ·obtain ⟨g1, g2, g3, g4, g5, g6⟩ := h'.g b hb'
  have hbl : b < w.heap.size := (h.g b hb').1
  refine ⟨g1, g2, g3, g4, fun e => e.elim g5 (fun e => by omega), fun i hi => ?_⟩
  rcases hi with hi | rfl
  ·rw [if_neg (hIlt i hi)]; exact g6 i hi
  ·rw [if_pos rfl]; omega
end
end Vp
end
section
open Go.RowKit
open Me Vf
namespace Vp
def Pg (w : World) (M : Nat → Prop) (fs N : Nat) (S : Sv) : Prop :=
 ∃ mb lr I db G c j lv mv ys, Pt w fs mb lr I db G S.room c j N lv mv ys ∧ Hist S.was c j S.l.reverse ∧ S.now = rep S.was S.l ∧ ∀ b, Own fs mb lr I db G b → M b
theorem Pg.kp {w w' : World} {M O : Nat → Prop} {fs N : Nat} {S : Sv} (h : Pg w M fs N S) (k : Kp O w w') (hO : ∀ b, O b → ¬ M b) : Pg w' M fs N S := by
 obtain ⟨mb, lr, I, db, G, c, j, lv, mv, ys, h1, h2, h3, h4⟩ := h
 exact ⟨mb, lr, I, db, G, c, j, lv, mv, ys, h1.kp k (fun b ho hb => hO b ho (h4 b hb)), h2, h3, h4⟩
theorem Pg.below {w w' : World} {M : Nat → Prop} {fs N : Nat} {S : Sv} (h : Pg w M fs N S) (b : Below w.heap.size w w') : Pg w' M fs N S := h.kp (O := fun _ => False) (Kp.of_below b) (fun _ o => o.elim)
theorem Pg.more {w : World} {M : Nat → Prop} {fs N N' : Nat} {S : Sv} (h : Pg w M fs N S) (hN : N ≤ N') : Pg w M fs N' S := by
 obtain ⟨mb, lr, I, db, G, c, j, lv, mv, ys, h1, h2⟩ := h
 exact ⟨mb, lr, I, db, G, c, j, lv, mv, ys, h1.more hN, h2⟩
def PNext (w : World) (M : Nat → Prop) (fs N : Nat) (S : Sv) (v : Value) (e : Ending) (w' : World) : Prop :=
 e = .returned v ∧ ∃ M', Pg w' M' fs N S ∧ Kp M w w' ∧ ∀ b, M' b → M b ∨ w.heap.size ≤ b
theorem PNext.same {w : World} {M : Nat → Prop} {fs N : Nat} {S : Sv} {i : Int} {R : Sv × Int} (h : Pg w M fs N S) (hR : R = (S, i)) : PNext w M fs N R.1 (.int .i64 R.2) (.returned (.int .i64 i)) w := by
 subst hR
 exact ⟨rfl, M, h, Kp.refl _ _, fun b hb => .inl hb⟩
theorem view_now {S : Sv} {c : Co} {j : List Op} (h : Hist S.was c j S.l.reverse) (hn : S.now = rep S.was S.l) : View c S.now := by
 have := h.view
 rwa [List.reverse_reverse, ← hn] at this
end Vp
theorem pnew_any (room : Int) (w : World) (hr : 0 ≤ room) (hr2 : room ≤ 1073741824) :
 Calls Tryz.prog 9 #[.int .i64 room] w fun e w' => e = .returned (.tuple #[.pointer (some ⟨w.heap.size, 0, none⟩), .int .i64 0]) ∧ (∃ M, Vp.Pg w' M w.heap.size 0 ⟨room, [], [], []⟩ ∧ ∀ b, M b → w.heap.size ≤ b) ∧ Below w.heap.size w w' := by
 go_enter Tryz.func9, Tryz.ntmps9
 go_wp2_with fail
 ((try simp only [Exit.inBlock, Exit.then]); refine bodyPost_ret (results_tmp2 rfl _ _ _) rfl ?_)
 refine ⟨rfl, ⟨fun b => w.heap.size ≤ b, ⟨none, none, fun _ => False, fun _ => 0, fun _ => False, ⟨fun _ => none, fun _ => ⟨[], []⟩, 0⟩, [], .slice none 0 0, .map none, [], ?_, .nil ?_, rfl, ?_⟩, fun b hb => hb⟩, (Below.refl _ _).alloc (Nat.le_refl _) _⟩
 ·exact ⟨heap_alloc_new w _, ⟨0, Nat.le_refl _, .inl ⟨rfl, rfl, fun _ => rfl⟩⟩, fun _ h => h.elim, fun _ _ h => h.elim, World.ownsRow_nil _ _ _ _, rfl, rfl, ⟨(fun _ _ h => nomatch h), (fun _ h => nomatch h)⟩, fun h => absurd rfl h, fun _ h => h.elim⟩
 ·exact ⟨(fun _ => rfl), (fun _ _ h => nomatch h), rfl, List.Pairwise.nil⟩
 ·intro b hb
  rcases hb with rfl | hb | hb | hb | ⟨_, hb, _⟩ | hb
  ·exact Nat.le_refl _
  ·cases hb
  ·cases hb
  ·exact hb.elim
  ·exact hb.elim
  ·exact hb.elim
theorem Vp.sync_end {w w' : World} {M : Nat → Prop} {fs N : Nat} {S : Vf.Sv} {mb lr : Option Nat} {I : Nat → Prop} {db : Nat → Nat} {G : Nat → Prop} {c : Vp.Co} {j : List Vp.Op} {lv mv : Value} {ys : List Value} {r : List Fl}
 (h : Vp.Pt w fs mb lr I db G S.room c j N lv mv ys) (hv : Vp.View c r) (hM : ∀ b, Vp.Own fs mb lr I db G b → M b) (hf : w'.heap[fs]? = some (Vp.fsC (.slice none 0 0) S.room c.used mv)) (hk : Kp (fun b => b = fs) w w') :
 ∃ M', Vp.Pg w' M' fs N ⟨S.room, r, r, []⟩ ∧ Kp M w w' ∧ ∀ b, M' b → M b ∨ w.heap.size ≤ b := by
 refine ⟨M, ⟨mb, none, I, db, fun _ => False, c, [], .slice none 0 0, mv, [], ?_, .nil hv, rfl, ?_⟩, hk.mono (fun b _ e => by subst e; exact hM _ (.inl rfl)), fun b hb => .inl hb⟩
 ·obtain ⟨k, hkk, hm⟩ := h.map
  have hIk : ∀ id, I id → w'.heap[id]? = w.heap[id]? := fun id hid => hk.block id (h.lt (.inr (.inr (.inr (.inl hid))))) (h.fl hid).1
  have hDk : ∀ id, I id → w'.heap[db id]? = w.heap[db id]? := fun id hid => hk.block _ (h.lt (.inr (.inr (.inr (.inr (.inl ⟨id, hid, rfl⟩)))))) (h.bt hid).1
  refine ⟨hf, ⟨k, by simp; omega, hm.keep (fun b hb => hk.block b (hm.lt hb).1 (fun e => h.fs_map (e ▸ hb)))⟩, fun id hid => ?_, h.inj, World.ownsRow_nil _ _ _ _, rfl, rfl, ⟨h.live.1, (fun _ h => nomatch h)⟩, fun h => absurd rfl h, fun _ h => h.elim⟩
  obtain ⟨f1, f2, f3⟩ := h.file id hid
  exact ⟨(hIk id hid).trans f1, (hDk id hid).trans f2, f3⟩
 ·intro b hb
  rcases hb with hb | hb | hb | hb | hb | hb
  ·exact hM b (.inl hb)
  ·exact hM b (.inr (.inl hb))
  ·cases hb
  ·exact hM b (.inr (.inr (.inr (.inl hb))))
  ·exact hM b (.inr (.inr (.inr (.inr (.inl hb)))))
  ·exact hb.elim
theorem psync_any {w : World} {M : Nat → Prop} {fs N : Nat} {S : Vf.Sv} (h : Vp.Pg w M fs N S) :
 Calls Tryz.prog 33 #[.pointer (some ⟨fs, 0, none⟩)] w (Vp.PNext w M fs N { S with was := S.now, l := [] } (.tuple #[])) := by
 obtain ⟨mb, lr, I, db, G, c, j, lv, mv, ys, h1, h2, h3, h4⟩ := h
 have HF := Lib.hid (forget_any h1.heap h1.form)
 have H1 := Lib.hid h1
 have HV := Lib.hid (Vp.view_now h2 h3)
 have H4 := Lib.hid h4
 clear h1 h2 h3 h4
 go_enter Tryz.func33, Tryz.ntmps33
 go_wp2_with (go_at_call 73; (with_reducible refine (HF.out).mono ?_); rintro e w' ⟨rfl, hf, hk⟩; have HHF := Lib.hid hf; clear hf)
 ((try simp only [Exit.inBlock, Exit.then]); first | (refine bodyPost_ret (results_none rfl _ _ _) rfl ?_) | (refine bodyPost_end (results_none rfl _ _ _) rfl ?_))
 exact ⟨rfl, Vp.sync_end H1.out HV.out H4.out HHF.out hk⟩
theorem ppending_any {w : World} {M : Nat → Prop} {fs N : Nat} {S : Vf.Sv} (h : Vp.Pg w M fs N S) (hN : N ≤ 1048576) :
 Calls Tryz.prog 42 #[.pointer (some ⟨fs, 0, none⟩)] w fun e w' => e = .returned (.int .i64 (S.l.length : Int)) ∧ w = w' := by
 obtain ⟨mb, lr, I, db, G, c, j, lv, mv, ys, h1, h2, h3, h4⟩ := h
 have hl := h2.len
 rw [List.length_reverse] at hl
 obtain ⟨k, hk, _⟩ := h1.map
 have HF := Lib.hid (count_any h1.heap h1.own (by omega))
 rw [hl] at HF
 clear h1 h2 h3 h4 hl
 go_enter Tryz.func42, Tryz.ntmps42
 go_wp2_with (go_at_call 83; ((with_reducible refine (HF.out).mono ?_); rintro e w' ⟨rfl, rfl⟩))
 go_ret
 exact ⟨rfl, rfl⟩
theorem psize_any {w : World} {M : Nat → Prop} {fs N : Nat} {S : Vf.Sv} (h : Vp.Pg w M fs N S) (n : List UInt8) :
 Calls Tryz.prog 40 #[.pointer (some ⟨fs, 0, none⟩), .string ⟨n.toArray⟩] w fun e w' => e = .returned (.tuple #[.int .i64 (Vf.size S.now n).1, .int .i64 (Vf.size S.now n).2]) ∧ w = w' := by
 obtain ⟨mb, lr, I, db, G, c, j, lv, mv, ys, h1, h2, h3, h4⟩ := h
 have hv := Vp.view_now h2 h3
 obtain ⟨k, hk, hm⟩ := h1.map
 cases hi : Vf.is n
 ·have HF := Lib.hid (find_bad (w := w) fs n hi)
  have HR := Lib.hid (Vp.size_bad (l := S.now) hi)
  clear h1 h2 h3 h4 hv hm hi
  generalize Vf.size S.now n = r at *
  go_enter Tryz.func40, Tryz.ntmps40
  go_wp2_with (go_at_call 82; ((with_reducible refine (HF.out).mono ?_); rintro e w' ⟨rfl, rfl⟩))
  ((try simp only [Exit.inBlock, Exit.then]); refine bodyPost_ret (results_tmp2 rfl _ _ _) rfl ?_)
  exact ⟨ret_two HR.out.symm, rfl⟩
 ·cases hn : c.map n with
  | none =>
    have HF := Lib.hid (find_none h1.heap hm n hi hn)
    have HR := Lib.hid (Vp.size_none hv hi hn)
    clear h1 h2 h3 h4 hv hm hi hn
    generalize Vf.size S.now n = r at *
    go_enter Tryz.func40, Tryz.ntmps40
    go_wp2_with (go_at_call 82; ((with_reducible refine (HF.out).mono ?_); rintro e w' ⟨rfl, rfl⟩))
    ((try simp only [Exit.inBlock, Exit.then]); refine bodyPost_ret (results_tmp2 rfl _ _ _) rfl ?_)
    exact ⟨ret_two HR.out.symm, rfl⟩
  | some id =>
    have HF := Lib.hid (find_some h1.heap hm n hi hn)
    have HR := Lib.hid (Vp.size_ok hv hi hn)
    obtain ⟨f1, f2, f3, f4⟩ := h1.file id (h1.live.1 n id hn)
    obtain ⟨e0, e1, _⟩ := Vp.fl_cells f1
    have hl : ((c.sto id).b.length : Int) ≤ 1073741824 := by omega
    clear h1 h2 h3 h4 hv hm hi hn f1 f2 f3 f4
    generalize Vf.size S.now n = r at *
    go_enter Tryz.func40, Tryz.ntmps40
    go_wp2_with (go_at_call 82; ((with_reducible refine (HF.out).mono ?_); rintro e w' ⟨rfl, rfl⟩))
    ((try simp only [Exit.inBlock, Exit.then]); refine bodyPost_ret (results_tmp2 rfl _ _ _) rfl ?_)
    exact ⟨ret_two HR.out.symm, rfl⟩
end
section
open Go.RowKit
open Me Vf
namespace Vp
def Left (w : World) (M : Nat → Prop) (fs N : Nat) (S : Sv) (w' : World) : Prop := ∃ M', Pg w' M' fs N S ∧ Kp M w w' ∧ ∀ b, M' b → M b ∨ w.heap.size ≤ b
theorem Left.next {w w' : World} {M : Nat → Prop} {fs N : Nat} {S : Sv} {i : Int} {R : Sv × Int} (h : Left w M fs N S w') (hR : R = (S, i)) : PNext w M fs N R.1 (.int .i64 R.2) (.returned (.int .i64 i)) w' := by
 subst hR
 exact ⟨rfl, h⟩
theorem act_end {w w2 : World} {M : Nat → Prop} {fs N : Nat} {S : Sv} {a : Ac} {mb lr : Option Nat} {I : Nat → Prop} {db : Nat → Nat} {G : Nat → Prop} {c : Co} {j : List Op} {lv mv : Value} {ys : List Value}
 (h : Pt w2 fs mb lr I db G S.room c j N lv mv ys) (hh : Hist S.was c j (a :: S.l.reverse)) (hn : S.now = rep S.was S.l) (hK : Kp M w w2) (hM : ∀ b, Own fs mb lr I db G b → M b ∨ w.heap.size ≤ b) : Left w M fs N (S.act a) w2 := by
 refine ⟨Own fs mb lr I db G, ⟨mb, lr, I, db, G, c, j, lv, mv, ys, h, ?_, ?_, fun b hb => hb⟩, hK, hM⟩
 ·show Hist S.was c j (S.l ++ [a]).reverse
  rw [List.reverse_append]
  exact hh
 ·show does S.now a = rep S.was (S.l ++ [a])
  rw [rep_append, ← hn]
theorem own_row {fs : Nat} {mb lr lr' : Option Nat} {I : Nat → Prop} {db : Nat → Nat} {G : Nat → Prop} {n : Nat} {X : Nat → Prop} (h : ∀ b, Own fs mb lr I db G b → X b) (hl : lr' = lr ∨ ∃ b, lr' = some b ∧ n ≤ b) (hn : ∀ b, n ≤ b → X b) : ∀ b, Own fs mb lr' I db G b → X b := by
 intro b hb
 rcases hb with hb | hb | hb | hb
 ·exact h b (.inl hb)
 ·exact h b (.inr (.inl hb))
 ·rcases hl with hl | ⟨b', e, hl⟩
  ·exact h b (.inr (.inr (.inl (hl.symm.trans hb))))
  ·rw [hb] at e
   obtain rfl := Option.some.inj e
   exact hn b hl
 ·exact h b (.inr (.inr (.inr hb)))
theorem own_map {fs : Nat} {mb mb' lr : Option Nat} {I : Nat → Prop} {db : Nat → Nat} {G : Nat → Prop} {n : Nat} {X : Nat → Prop} (h : ∀ b, Own fs mb lr I db G b → X b) (hl : mb' = mb ∨ ∃ b, mb' = some b ∧ n ≤ b) (hn : ∀ b, n ≤ b → X b) : ∀ b, Own fs mb' lr I db G b → X b := by
 intro b hb
 rcases hb with hb | hb | hb
 ·exact h b (.inl hb)
 ·rcases hl with hl | ⟨b', e, hl⟩
  ·exact h b (.inr (.inl (hl.symm.trans hb)))
  ·rw [hb] at e
   obtain rfl := Option.some.inj e
   exact hn b hl
 ·exact h b (.inr (.inr hb))
end Vp
theorem note_last {w w1 : World} {M : Nat → Prop} {fs N : Nat} {S : Vf.Sv} {a : Vf.Ac} {o : Vp.Op} {old : Value} {mb lr : Option Nat} {I : Nat → Prop} {db : Nat → Nat} {G : Nat → Prop} {c : Vp.Co} {j : List Vp.Op} {lv mv : Value} {ys : List Value}
 (h : Vp.Pt w1 fs mb lr I db G S.room c j N lv mv ys) (hN : N ≤ 1048576) (hh : Vp.Hist S.was c (o :: j) (a :: S.l.reverse)) (hn : S.now = Vf.rep S.was S.l) (hI : I o.on) (hs : ∃ b, mb = some b)
 (hold : Bs w1 G old o.old) (hK : Kp M w w1) (hM : ∀ b, Vp.Own fs mb lr I db G b → M b ∨ w.heap.size ≤ b) :
 Calls Tryz.prog 51 #[.pointer (some ⟨fs, 0, none⟩), .agg #[.int .i64 o.kind, .pointer (some ⟨o.on, 0, none⟩), .int .i64 (o.at_ : Int), old]] w1 fun e w' => e = .returned (.tuple #[]) ∧ Vp.Left w M fs (N + 1) (S.act a) w' := by
 obtain ⟨k, hk, _⟩ := h.map
 have hof : ∃ A m c, old = .slice A m c := by
  obtain ⟨A, c, e, _⟩ := hold
  exact ⟨A, _, c, e⟩
 refine (note_any (n := j.length) (ys := ys) (on := o.on) (at_ := o.at_) (kind := o.kind) (old := old) h.heap h.own (by omega) hof).mono ?_
 intro e w' hp
 obtain rfl := hp.1
 rw [h.row] at hp
 obtain ⟨lr', lv', ys', p1, p2, p3⟩ := h.noted (o := o) (G' := G) hp hI hs hold (fun _ h => h) h.g
 refine ⟨rfl, Vp.act_end p1 hh hn (hK.trans p2 (fun i hi e => ?_)) (Vp.own_row hM (p3.imp id (fun ⟨b, e, h⟩ => ⟨b, e, h⟩)) (fun b hb => .inr (Nat.le_trans hK.size hb)))⟩
 have : M i ∨ w.heap.size ≤ i := by
  rcases e with e | e
  ·exact hM i (.inl e)
  ·exact hM i (.inr (.inr (.inl e)))
 rcases this with h | h
 ·exact h
 ·omega
theorem nil_bs (w : World) (G : Nat → Prop) : Bs w G (.slice none 0 0) [] := ⟨none, 0, rfl, Nat.le_refl _, Nat.zero_le _, Rd.none_ _ _ _⟩
end
section
open Go.RowKit
open Me Vf
theorem Me.Bs.block {w : World} {G : Nat → Prop} {b : Nat} {l : List UInt8} {t : TypeId} {n : Nat} {fr : Nat × Nat} (h : w.heap[b]? = some (.cells (by8 l).toArray t fr)) (hg : G b) (hn : l.length = n) (hl : l.length ≤ 4294967296) : Bs w G (.slice (some ⟨b, 0, none⟩) n n) l := by
 subst hn
 refine ⟨some ⟨b, 0, none⟩, l.length, rfl, Nat.le_refl _, by unfold maxLen; omega, fun _ => ⟨_, rfl, (Array.getElem?_eq_some_iff.1 h).1, hg, fun j u hu => ?_⟩⟩
 rw [Addr.add_lit, Nat.zero_add, cell_of_row w b j _ _ _ h]
 simpa using hu
theorem Me.Rd.block {w : World} {G : Nat → Prop} {b : Nat} {l : List UInt8} {t : TypeId} (h : w.heap[b]? = some (.cells (by8 l).toArray t (0, 0))) (hg : G b) (o n : Nat) : Rd w G (some ⟨b, o, none⟩) (by8 ((l.drop o).take n)) := fun _ => by
 refine ⟨_, rfl, (Array.getElem?_eq_some_iff.1 h).1, hg, fun j u hu => ?_⟩
 rw [Addr.add_lit, cell_of_row w b (o + j) _ _ _ h]
 rw [← by8_take, ← by8_drop, List.getElem?_take] at hu
 split at hu
 ·rw [List.getElem?_drop] at hu
  simpa using hu
 ·cases hu
theorem pread_any {w : World} {M : Nat → Prop} {fs N : Nat} {S : Vf.Sv} (h : Vp.Pg w M fs N S) (n : List UInt8) (t m : Int) (hti : t ≤ 9223372036854775807) :
 Calls Tryz.prog 41 #[.pointer (some ⟨fs, 0, none⟩), .string ⟨n.toArray⟩, .int .i64 t, .int .i64 m] w (Vf.Handed w (Vf.read S.now n t m)) := by
 obtain ⟨mb, lr, I, db, G, c, j, lv, mv, ys, h1, h2, h3, h4⟩ := h
 have hv := Vp.view_now h2 h3
 obtain ⟨k, hk, hm⟩ := h1.map
 cases hi : Vf.is n
 ·have HF := Lib.hid (find_bad (w := w) fs n hi)
  have HR := Lib.hid (Vp.read_bad (l := S.now) (t := t) (m := m) hi)
  clear h1 h2 h3 h4 hv hm hi
  go_enter Tryz.func41, Tryz.ntmps41
  go_wp2_with (go_at_call 82; ((with_reducible refine (HF.out).mono ?_); rintro e w' ⟨rfl, rfl⟩))
  ((try simp only [Exit.inBlock, Exit.then]); refine bodyPost_ret (results_tmp2 rfl _ _ _) rfl ?_)
  exact Vf.Handed.no HR.out
 ·cases hn : c.map n with
  | none =>
    have HF := Lib.hid (find_none h1.heap hm n hi hn)
    have HR := Lib.hid (Vp.read_none (t := t) (m := m) hv hi hn)
    clear h1 h2 h3 h4 hv hm hi hn
    go_enter Tryz.func41, Tryz.ntmps41
    go_wp2_with (go_at_call 82; ((with_reducible refine (HF.out).mono ?_); rintro e w' ⟨rfl, rfl⟩))
    ((try simp only [Exit.inBlock, Exit.then]); refine bodyPost_ret (results_tmp2 rfl _ _ _) rfl ?_)
    exact Vf.Handed.no HR.out
  | some id =>
    have HF := Lib.hid (find_some h1.heap hm n hi hn)
    obtain ⟨f1, f2, f3, f4⟩ := h1.file id (h1.live.1 n id hn)
    obtain ⟨e0, e1, hidl⟩ := Vp.fl_cells f1
    have HR1 : Hid (∀ t m : Int, t < 0 ∨ m < 0 ∨ ((c.sto id).b.length : Int) - t < m → Vf.read S.now n t m = ([], 1)) := Lib.hid fun t m hb => Vp.read_off hv hi hn hb
    have HR2 : Hid (∀ t m : Nat, t + m ≤ (c.sto id).b.length → Vf.read S.now n (t : Int) (m : Int) = ((((c.sto id).b).drop t).take m, 0)) := Lib.hid fun t m hb => Vp.read_ok hv hi hn hb
    have HB := Lib.hid f2
    have hdl : db id < w.heap.size := (Array.getElem?_eq_some_iff.1 f2).1
    have hl : ((c.sto id).b.length : Int) ≤ 1073741824 := by omega
    clear h1 h2 h3 h4 hv hm hi hn f1 f2 f3 f4
    generalize Vf.read S.now n = r at *
    generalize (c.sto id).b = bb at *
    generalize db id = d at *
    by_cases ht : t < 0
    ·have HR := Lib.hid (HR1.out t m (.inl ht))
     clear HR1 HR2
     go_enter Tryz.func41, Tryz.ntmps41
     go_wp2_with (go_at_call 82; ((with_reducible refine (HF.out).mono ?_); rintro e w' ⟨rfl, rfl⟩))
     ((try simp only [Exit.inBlock, Exit.then]); refine bodyPost_ret (results_tmp2 rfl _ _ _) rfl ?_)
     exact Vf.Handed.no HR.out
    ·obtain ⟨t, rfl⟩ : ∃ t' : Nat, t = (t' : Int) := ⟨t.toNat, by omega⟩
     clear ht
     by_cases hm : m < 0
     ·have HR := Lib.hid (HR1.out t m (.inr (.inl hm)))
      clear HR1 HR2
      go_enter Tryz.func41, Tryz.ntmps41
      go_wp2_with (go_at_call 82; ((with_reducible refine (HF.out).mono ?_); rintro e w' ⟨rfl, rfl⟩))
      ((try simp only [Exit.inBlock, Exit.then]); refine bodyPost_ret (results_tmp2 rfl _ _ _) rfl ?_)
      exact Vf.Handed.no HR.out
     ·obtain ⟨m, rfl⟩ : ∃ m' : Nat, m = (m' : Int) := ⟨m.toNat, by omega⟩
      clear hm
      by_cases h2 : (bb.length : Int) - (t : Int) < (m : Int)
      ·have HR := Lib.hid (HR1.out t m (.inr (.inr h2)))
       have hwr : IntKind.i64.wrap ((bb.length : Int) - (t : Int)) = (bb.length : Int) - (t : Int) := IntWalk.i64_in _ (by omega)
       clear HR1 HR2
       go_enter Tryz.func41, Tryz.ntmps41
       go_wp2_with (go_at_call 82; ((with_reducible refine (HF.out).mono ?_); rintro e w' ⟨rfl, rfl⟩))
       ((try simp only [Exit.inBlock, Exit.then]); refine bodyPost_ret (results_tmp2 rfl _ _ _) rfl ?_)
       exact Vf.Handed.no HR.out
      ·have HR := Lib.hid (HR2.out t m (by omega))
       clear HR1 HR2
       have hwr : IntKind.i64.wrap ((bb.length : Int) - (t : Int)) = (bb.length : Int) - (t : Int) := IntWalk.i64_in _ (by omega)
       have hnl : Hid (((bb.drop t).take m).length = m) := Lib.hid (by rw [List.length_take, List.length_drop]; omega)
       have hmk := make_bytes m (by omega)
       have hbW : Below w.heap.size w (w.alloc (.cells (by8 (noughts m)).toArray 5)) := (Below.refl _ _).alloc (Nat.le_refl _) _
       have HB2 := Lib.hid ((hbW.block d hdl).trans HB.out)
       have e1' : (w.alloc (.cells (by8 (noughts m)).toArray 5)).cell? ⟨id, 1, none⟩ = some (.slice (some ⟨d, 0, none⟩) bb.length bb.length) := (hbW.cell (p := ⟨id, 1, none⟩) hidl).trans e1
       have HN := Lib.hid (heap_alloc_new w (.cells (by8 (noughts m)).toArray 5))
       have HMin : Hid (((bb.drop t).take m).length = Nat.min (bb.length - t) m) := Lib.hid (by rw [hnl.out]; exact (Nat.min_eq_right (by omega)).symm)
       have hfit : Hid (0 + ((bb.drop t).take m).length ≤ (noughts m).length) := Lib.hid (by rw [hnl.out, noughts_len]; omega)
       have htl : t ≤ bb.length := by omega
       have hml : m ≤ bb.length - t := by omega
       have HEND : Hid (∀ w1, Hid (w1.heap[w.heap.size]? = some (.cells (by8 (upd (noughts m) 0 ((bb.drop t).take m))).toArray 5 (0, 0))) → Kp (fun b => b = w.heap.size) (w.alloc (.cells (by8 (noughts m)).toArray 5)) w1 → Vf.Handed w ((bb.drop t).take m, 0) (.returned (.tuple #[.slice (some ⟨w.heap.size, 0, none⟩) m m, .int .i64 0])) w1) := Lib.hid (fun w1 h1 h2 => by
        have h1 := h1.out
        rw [upd_all (by rw [hnl.out, noughts_len])] at h1
        refine ⟨_, rfl, Bs.block h1 (Nat.le_refl _) hnl.out (by rw [hnl.out]; omega), ?_⟩
        exact ⟨h2.os, h2.tape, h2.output, Nat.le_trans hbW.size h2.size, fun b hb => (h2.block b (by simp; omega) (fun e => by omega)).trans (hbW.block b hb)⟩)
       by_cases heq : t = bb.length
       ·have hm0 : m = 0 := by omega
        have HRD : Hid (Rd (w.alloc (.cells (by8 (noughts m)).toArray 5)) (fun b => b = d) (some ⟨d, 0, none⟩) (by8 ((bb.drop t).take m))) := Lib.hid (by rw [hm0, List.take_zero]; exact Rd.none_ _ _ _)
        have HMin0 : Hid (((bb.drop t).take m).length = Nat.min 0 m) := Lib.hid (by rw [hnl.out, hm0]; rfl)
        clear hbW hm0
        generalize hp : (bb.drop t).take m = p at *
        clear hp
        subst heq
        go_enter Tryz.func41, Tryz.ntmps41
        go_wp2_with (first | (go_at_call 82; ((with_reducible refine (HF.out).mono ?_); rintro e w' ⟨rfl, rfl⟩)) | (with_reducible refine wpList_copy_bs rfl (.tmp 41) (.tmp 47) 49 49 rfl 5 Tryz.underlying49 vsizeU8 (some ⟨w.heap.size, 0, none⟩) (some ⟨d, 0, none⟩) m m 0 0 rfl rfl w.heap.size 0 _ p 5 HN.out HMin0.out (fun _ => rfl) _ HRD.out hfit.out ?_; intro w1 hd1 hk1 hs1))
        all_goals
         ((try simp only [Exit.inBlock, Exit.then]); refine bodyPost_ret (results_tmp2 rfl _ _ _) rfl ?_)
         rw [HR.out]
         exact HEND.out w1 hd1 hk1
       ·have HRD : Hid (Rd (w.alloc (.cells (by8 (noughts m)).toArray 5)) (fun b => b = d) (some ⟨d, t, none⟩) (by8 ((bb.drop t).take m))) := Lib.hid (Rd.block (G := fun b => b = d) HB2.out rfl t m)
        have heq2 : ¬ bb.length = t := fun e => heq e.symm
        clear hbW
        generalize hp : (bb.drop t).take m = p at *
        clear hp
        go_enter Tryz.func41, Tryz.ntmps41
        go_wp2_with (first | (go_at_call 82; ((with_reducible refine (HF.out).mono ?_); rintro e w' ⟨rfl, rfl⟩)) | (with_reducible refine wpList_copy_bs rfl (.tmp 41) (.tmp 47) 49 49 rfl 5 Tryz.underlying49 vsizeU8 (some ⟨w.heap.size, 0, none⟩) (some ⟨d, t, none⟩) m m (bb.length - t) (bb.length - t) rfl rfl w.heap.size 0 _ p 5 HN.out HMin.out (fun _ => rfl) _ HRD.out hfit.out ?_; intro w1 hd1 hk1 hs1))
        all_goals
         ((try simp only [Exit.inBlock, Exit.then]); refine bodyPost_ret (results_tmp2 rfl _ _ _) rfl ?_)
         rw [HR.out]
         exact HEND.out w1 hd1 hk1
end
end Go.Proofs.YtbakngbmfgnmcaaGreatDoor
