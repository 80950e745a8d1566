/-
  MEMORY, for every seat: copy and make of bytes, with a word on what else has turned.
-/
import Derived.Test.YtiacpopgnmledaaVpHist
import Derived.Laws.CopyOwn
import Derived.Laws.MakeOwn
import Derived.Deep.OwnRows
namespace Go.Proofs.Ytiacpopgnmledaa
open Go.RowKit
open Me Vf

namespace Me
theorem by8_upd (b : List UInt8) (o : Nat) (p : List UInt8) : by8 (upd b o p) = (by8 b).take o ++ (by8 p ++ (by8 b).drop (o + (by8 p).length)) := by
  unfold upd by8
  simp [List.map_take, List.map_drop]
theorem Kp.setRow {O : Nat → Prop} {a w : World} (h : Kp O a w) (g : Nat) (hg : a.heap.size ≤ g ∨ O g) (cs : Array Value) : Kp O a (w.setRow g cs) :=
  ⟨h.os, h.tape, h.output, by simpa [World.setRow] using h.size, fun i hi hn => (setRow_other w g i cs (by
    rintro rfl
    rcases hg with hg | hg
    · omega
    · exact hn hg)).trans (h.block i hi hn)⟩
theorem row_size (w : World) (g : Nat) (cs : Array Value) : (w.setRow g cs).heap.size = w.heap.size := by simp [World.setRow]
section
variable {P : Program} {w : World}
theorem run_copy_bs (dT sT ty elem : TypeId) (hu : P.underlying dT = some (.slice elem)) (hsz : (P.info? elem).map (·.size) = some 1)
    (dp sp : Option Addr) (dLen dCap sLen sCap g off : Nat) (cur p : List UInt8) (t : TypeId) (hg : w.heap[g]? = some (.cells (by8 cur).toArray t (0, 0))) (hp : p.length = Nat.min sLen dLen)
    (hpos : 0 < p.length → dp = some ⟨g, off, none⟩) (G : Nat → Prop) (hr : Rd w G sp (by8 p)) (hfit : off + p.length ≤ cur.length) :
    ∃ w', (Builtin.copy_ #[dT, sT] ty #[.slice dp dLen dCap, .slice sp sLen sCap]).run P w = .ok (goInt p.length) w' ∧
      w'.heap[g]? = some (.cells (by8 (upd cur off p)).toArray t (0, 0)) ∧ Kp (fun b => b = g) w w' ∧ w'.heap.size = w.heap.size := by
  by_cases h0 : p.length = 0
  · obtain rfl : p = [] := List.eq_nil_of_length_eq_zero h0
    refine ⟨w, run_copy_none (P := P) w dT sT ty elem dp sp dLen dCap sLen sCap hu hsz (by simpa using hp.symm), ?_, Kp.refl _ _, rfl⟩
    rw [Vp.upd_nil]
    exact hg
  · obtain rfl := hpos (by omega)
    obtain ⟨ad, rfl, _, _, hc⟩ := hr (by intro e; apply h0; rw [← by8_len, e]; rfl)
    have hrun := run_copy_row (P := P) w dT sT ty elem g off dLen dCap ad sLen sCap (by8 cur).toArray t (by8 p) hu hsz hg (by rw [by8_len]; exact hp) hc (by simpa [by8_len] using hfit) (by8_one _)
    rw [by8_len] at hrun
    refine ⟨_, hrun, ?_, (Kp.refl (fun b => b = g) w).setRow g (.inr rfl) _, row_size _ _ _⟩
    rw [setRow_heap w g _ _ t _ hg, by8_upd, by8_len, List.append_assoc]
theorem wpList_copy_bs {ops : Array Oper} {rest : List Oper} {o : Oper} {a : Act} {Q : Exit → Act → World → Prop} (hgd : o.guard = none) (d s : Operand) (dT sT : TypeId)
    (ho : o.op = .call { callee := .builtin .copy, args := #[d, s], argTypes := #[dT, sT] }) (elem : TypeId) (hu : P.underlying dT = some (.slice elem)) (hsz : (P.info? elem).map (·.size) = some 1)
    (dp sp : Option Addr) (dLen dCap sLen sCap : Nat) (hd : a.eval d = .slice dp dLen dCap) (hs : a.eval s = .slice sp sLen sCap)
    (g off : Nat) (cur p : List UInt8) (t : TypeId) (hg : w.heap[g]? = some (.cells (by8 cur).toArray t (0, 0))) (hp : p.length = Nat.min sLen dLen)
    (hpos : 0 < p.length → dp = some ⟨g, off, none⟩) (G : Nat → Prop) (hr : Rd w G sp (by8 p)) (hfit : off + p.length ≤ cur.length)
    (h : ∀ w', Hid (w'.heap[g]? = some (.cells (by8 (upd cur off p)).toArray t (0, 0))) → Kp (fun b => b = g) w w' → Hid (w'.heap.size = w.heap.size) → wpList P ops Q rest (a.put o.dst (goInt p.length)) w') :
    wpList P ops Q (o :: rest) a w := by
  refine wpList_plain hgd fun K hK => ?_
  obtain ⟨w', hrun, h1, h2, h3⟩ := run_copy_bs (P := P) (w := w) dT sT o.type elem hu hsz dp sp dLen dCap sLen sCap g off cur p t hg hp hpos G hr hfit
  unfold Oper.wp
  simp [execOp, ho, resolve, invoke, builtin, hd, hs, hrun, Result.andThen]
  exact hK _ _ (h w' (Lib.hid h1) h2 (Lib.hid h3))
theorem wp_copy_bs {o : Oper} {a : Act} {K : Act → World → Prop} {Q : Exit → Act → World → Prop} (d s : Operand) (dT sT : TypeId)
    (ho : o.op = .call { callee := .builtin .copy, args := #[d, s], argTypes := #[dT, sT] }) (elem : TypeId) (hu : P.underlying dT = some (.slice elem)) (hsz : (P.info? elem).map (·.size) = some 1)
    (dp sp : Option Addr) (dLen dCap sLen sCap : Nat) (hd : a.eval d = .slice dp dLen dCap) (hs : a.eval s = .slice sp sLen sCap)
    (g off : Nat) (cur p : List UInt8) (t : TypeId) (hg : w.heap[g]? = some (.cells (by8 cur).toArray t (0, 0))) (hp : p.length = Nat.min sLen dLen)
    (hpos : 0 < p.length → dp = some ⟨g, off, none⟩) (G : Nat → Prop) (hr : Rd w G sp (by8 p)) (hfit : off + p.length ≤ cur.length)
    (h : ∀ w', Hid (w'.heap[g]? = some (.cells (by8 (upd cur off p)).toArray t (0, 0))) → Kp (fun b => b = g) w w' → Hid (w'.heap.size = w.heap.size) → K (a.put o.dst (goInt p.length)) w') :
    Oper.wp P o a w K Q := by
  obtain ⟨w', hrun, h1, h2, h3⟩ := run_copy_bs (P := P) (w := w) dT sT o.type elem hu hsz dp sp dLen dCap sLen sCap g off cur p t hg hp hpos G hr hfit
  unfold Oper.wp
  simp [execOp, ho, resolve, invoke, builtin, hd, hs, hrun, Result.andThen]
  exact h w' (Lib.hid h1) h2 (Lib.hid h3)
end
def noughts (n : Nat) : List UInt8 := List.replicate n 0
theorem noughts_len (n : Nat) : (noughts n).length = n := by simp [noughts]
theorem made_noughts (n : Nat) : madeCells #[.int .u8 0] n = (by8 (noughts n)).toArray := by
  apply Array.ext
  · rw [size_madeCells]; simp [by8_len, noughts_len]
  · intro i h1 h2
    simp [madeCells, by8, noughts, Nat.mod_one]
theorem upd_upd {cur a b : List UInt8} {off : Nat} (h : off + a.length + b.length ≤ cur.length) : upd (upd cur off a) (off + a.length) b = upd cur off (a ++ b) := by
  have h1 : (upd cur off a).take (off + a.length) = cur.take off ++ a := by
    unfold upd
    rw [List.take_append_of_le_length (by simp; omega)]
    exact List.take_of_length_le (by simp; omega)
  have h2 : (upd cur off a).drop (off + a.length + b.length) = cur.drop (off + (a ++ b).length) := by
    unfold upd
    rw [List.drop_append, List.drop_eq_nil_of_le (by simp; omega), List.nil_append, List.drop_drop]
    congr 1
    simp
    omega
  have h3 : upd (upd cur off a) (off + a.length) b = (upd cur off a).take (off + a.length) ++ b ++ (upd cur off a).drop (off + a.length + b.length) := rfl
  rw [h3, h1, h2]
  unfold upd
  simp
theorem upd_all {cur p : List UInt8} (h : p.length = cur.length) : upd cur 0 p = p := by
  unfold upd
  rw [List.drop_eq_nil_of_le (by omega)]
  simp
end Me

theorem make_bytes (n : Nat) (hn : n ≤ 4294967296) (W : World) : (Instr.makeSlice 40 (.int .i64 (n : Int)) (.int .i64 (n : Int))).run Try.prog W = .ok (.slice (some ⟨W.heap.size, 0, none⟩) n n) (W.alloc (.cells (by8 (noughts n)).toArray 5)) := by
  obtain ⟨i0, hi0, hz0, hz1, hz2⟩ := info_parts u8info
  have h := run_make (P := Try.prog) W 40 5 i0 (.int .u8 0) Try.underlying40 hi0 hz0 .i64 .i64 (n : Int) (n : Int) (by omega) (by omega) (by rw [hz2]; omega) (by omega)
  rw [hz1, show (Value.int .u8 0).cells = #[.int .u8 0] from rfl, Nat.mul_one, Int.toNat_natCast, made_noughts] at h
  exact h

set_option maxHeartbeats 400000 in
theorem isName_any (n : List UInt8) (w : World) :
    Calls Try.prog 40 #[.string ⟨n.toArray⟩] w fun e w' => e = .returned (.bool (Vf.is n)) ∧ w = w' := by
  cases n with
  | nil =>
    go_enter Try.func40, Try.ntmps40
    go_wp2
    go_ret
    exact ⟨rfl, rfl⟩
  | cons x r =>
    by_cases h2 : ((x :: r).length : Int) ≤ 255
    · have H : Hid (Vf.is (x :: r) = true) := Lib.hid (by unfold Vf.is; simp at h2 ⊢; omega)
      go_enter Try.func40, Try.ntmps40
      go_wp2
      go_ret
      exact ⟨ret_bool (by rw [H.out]; simp at h2 ⊢; try omega), rfl⟩
    · have H : Hid (Vf.is (x :: r) = false) := Lib.hid (by unfold Vf.is; simp at h2 ⊢; omega)
      go_enter Try.func40, Try.ntmps40
      go_wp2
      go_ret
      exact ⟨ret_bool (by rw [H.out]; simp at h2 ⊢; try omega), rfl⟩

set_option maxHeartbeats 400000 in
theorem length_any (ps : List (List UInt8)) (v : Value) (G : Nat → Prop) (w : World) (hp : Vf.Ps w G v ps) (hl : ps.length ≤ 1048576) (ht : ps.flatten.length ≤ 4294967296) :
    Calls Try.prog 41 #[v] w fun e w' => e = .returned (.int .i64 (ps.flatten.length : Int)) ∧ w = w' := by
  obtain ⟨A, c, xs, rfl, hc, hcm, hrd, hels⟩ := hp
  unfold maxLen at hcm
  have HR := Lib.hid hrd
  have HE := Lib.hid hels
  have hl' : (ps.length : Int) ≤ 1048576 := by omega
  generalize hT : ps.flatten.length = T at *
  have HT := Lib.hid hT
  clear hrd hels hT
  go_enter Try.func41, Try.ntmps41
  go_wp2_with fail
  go_loop [3, 8] (fun n i => ∃ (k : Nat) (x : Int), k ≤ ps.length ∧ i = .int .i64 k ∧ n = .int .i64 x ∧ 0 ≤ x ∧ x ≤ 4294967296 ∧ Hid (x = ((ps.take k).flatten.length : Int))) (fun _ i => ps.length - (intOf i).toNat)
  case atStart => exact ⟨0, 0, Nat.zero_le _, rfl, rfl, by omega, by omega, Lib.hid rfl⟩
  case round =>
    obtain ⟨k, x, hk, rfl, rfl, x0, x1, hx⟩ := hrel
    by_cases hlt : k < ps.length
    · obtain ⟨cs, ⟨v, rfl, hbs⟩, hxx⟩ := HE.out.get Vf.BsC.one k hlt
      have hxl := HE.out.length Vf.BsC.one
      obtain ⟨rb, ro, rfl, hlt2, hg, hcell⟩ := HR.out.lit (k * 1) (by omega)
      obtain ⟨A2, cc, rfl, hc2, hcm2, hrd2⟩ := hbs
      have hcl2 : w.cell? ⟨rb, ro + k, none⟩ = some (.slice A2 (ps[k]).length cc) := by have := hcell _ _ (hxx 0 (by omega)); simpa using this
      have hs := Lib.hid (Vf.flat_take ps k hlt)
      have hle := Vf.flat_le ps (k + 1)
      have hb : x + (ps[k]).length ≤ 4294967296 := by have := hs.out; have := hx.out; have h2 := HT.out; rw [hs.out, List.length_append] at hle; omega
      clear hxx hxl hcell hrd2 hle
      generalize hm : (ps[k]).length = m at *
      have HM := Lib.hid hm
      clear hm
      go_wp2_with fail
      go_round
      case rel => exact ⟨k + 1, _, by omega, by go_num, rfl, by omega, by omega, Lib.hid (by rw [hs.out, List.length_append, HM.out]; have := hx.out; omega)⟩
      case measure => simp [intOf]; omega
    · obtain rfl : k = ps.length := by omega
      rw [List.take_length] at hx
      go_wp2_with fail
      go_ret
      exact ⟨ret_i64 (by rw [hx.out, HT.out]), rfl⟩

end Go.Proofs.Ytiacpopgnmledaa
