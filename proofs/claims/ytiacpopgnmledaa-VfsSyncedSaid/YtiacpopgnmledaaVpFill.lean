/-
  CONTRACTS: the program's files (chapter 3): small helpers.
-/
import Derived.Test.YtiacpopgnmledaaVpLib
import Derived.Test.YtiacpopgnmledaaShelf
import Derived.Lib.LazyBuf
namespace Go.Proofs.Ytiacpopgnmledaa
open Go.RowKit
open Me Vf

theorem sizeU8 : (Try.prog.info? 5).map (·.size) = some 1 := by kernel_rfl

/-- What fill leaves. -/
def Vp.Filled (w : World) (db : Nat) (b : List UInt8) (e : Ending) (w' : World) : Prop :=
  e = .returned (.tuple #[]) ∧ w'.heap[db]? = some (.cells (by8 b).toArray 5 (0, 0)) ∧ Kp (fun b => b = db) w w' ∧ w'.heap.size = w.heap.size

set_option maxHeartbeats 1000000 in
theorem fill_any (ps : List (List UInt8)) (pv : Value) (G : Nat → Prop) (w : World) (db off n cc : Nat) (cur : List UInt8) (hdb : w.heap[db]? = some (.cells (by8 cur).toArray 5 (0, 0)))
    (hp : Vf.Ps w G pv ps) (hG : ∀ b, G b → b ≠ db) (hn : ps.flatten.length = n) (hoff : off + n ≤ cur.length) (hcc : n ≤ cc) (hcm : cc ≤ 4294967296) (hl : ps.length ≤ 1048576) :
    Calls Try.prog 43 #[.slice (some ⟨db, off, none⟩) n cc, pv] w (Vp.Filled w db (upd cur off ps.flatten)) := by
  obtain ⟨A, c, xs, rfl, hc, hcm', hrd, hels⟩ := hp
  unfold maxLen at hcm'
  have HR := Lib.hid hrd
  have HE := Lib.hid hels
  have HN := Lib.hid hn
  have HG := Lib.hid hG
  have hl' : (ps.length : Int) ≤ 1048576 := by omega
  have HD := Lib.hid hdb
  clear hrd hels hn hG hdb
  go_enter Try.func43, Try.ntmps43
  go_wp2_with fail
  go_loopw [0, 8] (fun pl i wr => ∃ (k o t r c : Nat), k ≤ ps.length ∧ i = .int .i64 k ∧ .slice (some ⟨db, o, none⟩) r c = pl ∧ t + r = n ∧ t + c = cc ∧ Hid (t = ((ps.take k).flatten).length) ∧ Hid (t < cc → o = off + t) ∧
    Hid (wr.heap[db]? = some (.cells (by8 (upd cur off (ps.take k).flatten)).toArray 5 (0, 0))) ∧ Kp (fun b => b = db) w wr ∧ Hid (wr.heap.size = w.heap.size)) (fun _ i _ => ps.length - (intOf i).toNat)
  case atStart => exact ⟨0, off, 0, n, cc, Nat.zero_le _, rfl, rfl, by omega, by omega, Lib.hid rfl, Lib.hid (fun _ => rfl), Lib.hid (by rw [List.take_zero, List.flatten_nil, Vp.upd_nil]; exact HD.out), Kp.refl _ _, Lib.hid rfl⟩
  case round =>
    obtain ⟨k, o, t, r, c, hk, rfl, rfl, htr, htc, ht, ho, hdb, hkp, hsz⟩ := hrel
    by_cases hlt : k < ps.length
    · have hR := HR.out.kp hkp (fun i _ hi => HG.out i hi)
      have hE : Els (Vf.BsC wr G) ps xs := HE.out.mono fun b cs hb => hb.keep hkp.size (fun i hi hg => hkp.block i hi (HG.out i hg))
      obtain ⟨cs, ⟨v, rfl, hbs⟩, hx⟩ := hE.get Vf.BsC.one k hlt
      have hxl := hE.length Vf.BsC.one
      obtain ⟨rb, ro, rfl, hlt2, hg, hcell⟩ := hR.lit (k * 1) (by omega)
      have hcl : wr.cell? ⟨rb, ro + k, none⟩ = some v := by have := hcell _ _ (hx 0 (by omega)); simpa using this
      obtain ⟨A2, c2, rfl, hc2, hcm2, hrd2⟩ := hbs
      have HRD := Lib.hid hrd2
      have HF := Lib.hid (Vf.flat_take ps k hlt)
      have hle := Vf.flat_le ps (k + 1)
      rw [HF.out, List.length_append, HN.out, ← ht.out] at hle
      have hpk : t + (ps[k]).length ≤ n := hle
      have HU : Hid (upd (upd cur off (ps.take k).flatten) (off + t) ps[k] = upd cur off (ps.take (k + 1)).flatten) := Lib.hid (by rw [HF.out, ht.out]; exact upd_upd (by rw [← ht.out]; omega))
      have HL : Hid ((upd cur off (ps.take k).flatten).length = cur.length) := Lib.hid (upd_len (by rw [← ht.out]; omega))
      have HP : Hid (0 < (ps[k]).length → some (⟨db, o, none⟩ : Addr) = some ⟨db, off + t, none⟩) := Lib.hid (fun h => by rw [ho.out (by omega)])
      have HB : Hid (0 < (ps[k]).length → o = off + t) := Lib.hid (fun h => ho.out (by omega))
      have HT1 : Hid (t + (ps[k]).length = ((ps.take (k + 1)).flatten).length) := Lib.hid (by rw [HF.out, List.length_append, ← ht.out])
      unfold maxLen at hcm2
      clear hR hE hx hxl hcell hrd2 hle
      generalize hpp : ps[k] = p at *
      clear hpp
      have hpl : p.length ≤ r := by omega
      have hpc : p.length ≤ c := by omega
      have hmin : Hid (p.length = Nat.min p.length r) := Lib.hid (Nat.min_eq_left hpl).symm
      have hfit : Hid (off + t + p.length ≤ (upd cur off (ps.take k).flatten).length) := Lib.hid (by rw [HL.out]; omega)
      have hpl' : (p.length : Int) ≤ (r : Int) := by omega
      have hpc' : (p.length : Int) ≤ (c : Int) := by omega
      go_wp2_with (with_reducible refine wpList_copy_bs rfl (.tmp 13) (.tmp 14) 40 40 rfl 5 Try.underlying40 sizeU8 (some ⟨db, o, none⟩) A2 r c p.length c2 rfl rfl db (off + t) _ p 5 hdb.out hmin.out HP.out G HRD.out hfit.out ?_; intro w1 hd1 hk1 hs1)
      all_goals
        go_roundw
        case rel =>
          refine ⟨k + 1, if c = p.length then o else o + p.length, t + p.length, r - p.length, c - p.length, by omega, by go_num, by split <;> rfl, by omega, by omega, HT1, Lib.hid (fun h => ?_), Lib.hid (by rw [← HU.out]; exact hd1.out), hkp.trans hk1 (fun i _ h => h), Lib.hid (hs1.out.trans hsz.out)⟩
          rw [if_neg (by omega)]
          by_cases h0 : 0 < p.length
          · have := HB.out h0; omega
          · have := ho.out (by omega); omega
        case measure => simp [intOf]; omega
    · obtain rfl : k = ps.length := by omega
      rw [List.take_length] at hdb
      go_wp2_with fail
      ((try simp only [Exit.inBlock, Exit.then]); first | (refine bodyPost_ret (results_none rfl _ _ _) rfl ?_) | (refine bodyPost_end (results_none rfl _ _ _) rfl ?_))
      exact ⟨rfl, hdb.out, hkp, hsz.out⟩

theorem strClone_any (n : List UInt8) (w : World) (hn : n.length ≤ 1048576) :
    Calls Try.prog 42 #[.string ⟨n.toArray⟩] w fun e w' => e = .returned (.string ⟨n.toArray⟩) ∧ Below w.heap.size w w' := by
  have HC := Lib.hid (Try.stringslite_Clone ⟨n.toArray⟩ w (by show n.toArray.size ≤ _; simp; omega))
  go_enter Try.func42, Try.ntmps42
  go_wp2_with (go_at_call 55; ((with_reducible refine (HC.out).mono ?_); rintro e w' ⟨rfl, hb⟩))
  go_ret
  exact ⟨rfl, hb⟩

set_option maxRecDepth 100000 in
/-- slices.Clone of bytes that are not nil. -/
theorem slcClone_any (l : List UInt8) (g o c : Nat) (G : Nat → Prop) (w : World) (hr : Rd w G (some ⟨g, o, none⟩) (by8 l)) (hl : l.length ≤ 4294967296) :
    Calls Try.prog 47 #[.slice (some ⟨g, o, none⟩) l.length c] w (Vf.Made w l) := by
  obtain ⟨i0, hi0, hz0, hz1, hz2⟩ := info_parts u8info
  have HI := Lib.hid hi0
  have HZ := Lib.hid (And.intro hz0 (And.intro hz1 hz2))
  clear hi0 hz0 hz1 hz2
  have HR := Lib.hid (hr.keep (w' := w.alloc (.cells #[] 5)) (by simp) (fun b hb _ => Below.heap_alloc w _ b hb))
  clear hr
  have qT : ∀ (w : World) (a : Addr) (n c : Nat), (binOp .eql 40 (.slice (some a) n c) (.slice none 0 0)).run Try.prog w = .ok (.bool false) w := fun w a n c => Lib.run_eql_slice_nil w _ _ (some a) n c _ _ Try.underlying40
  go_enter Try.func47, Try.ntmps47
  go_wp2_with (at_builtin; refine wpList_app _ rfl (.tmp 5) (.tmp 6) 40 rfl w.heap.size 5 i0 (.int .u8 0) 1 1 Try.underlying40 HI.out HZ.out.1 HZ.out.2.1 HZ.out.2.2 rfl (by decide) (.slice (some ⟨w.heap.size, 0, none⟩) 0 0) 0 [] rfl (owns_empty _ _ _ rfl) G (some ⟨g, o, none⟩) l.length c (by8 l) rfl (by rw [by8_len]; omega) HR.out (by8_one _) (by unfold maxLen; omega) (by omega) (by simp) ?_; intro v1 w1 hown1 hg1 hat1 hnil1)
  go_ret
  rw [Nat.zero_add, List.nil_append] at hown1
  exact ⟨v1, rfl, Bs.own hown1, ((Below.refl _ _).alloc (Nat.le_refl _) _).grown hg1 (by simp) (fun g hg => by simp [Value.ownBlock] at hg; omega)⟩

end Go.Proofs.Ytiacpopgnmledaa
