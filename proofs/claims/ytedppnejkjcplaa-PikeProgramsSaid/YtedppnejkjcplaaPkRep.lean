/-
  CONTRACTS: the library's slices.Repeat over one int, as chapter 12 calls it; math/bits.Mul.
-/
import Derived.Test.YtedppnejkjcplaaPkLay
import Derived.Lib.Mul64
import Derived.Laws.CopyOwn
import Derived.RegionTactic
import Derived.Deep.RegionLaw
namespace Go.Proofs.Ytedppnejkjcplaa
open Go.RowKit
open Me
namespace Pk
theorem maskN (a : Nat) (ha : a < 18446744073709551616) : bits .and .u64 (a : Int) 4294967295 = ((a % 4294967296 : Nat) : Int) := by
  have h := bits_and_u64_nat a 4294967295 ha (by omega)
  have e : a &&& 4294967295 = a % 4294967296 := Nat.and_two_pow_sub_one_eq_mod a 32
  rw [e] at h
  exact h
theorem divN (a : Nat) : (a : Int) / 4294967296 = ((a / 4294967296 : Nat) : Int) := by omega
theorem mulN (a b : Nat) : (a : Int) * (b : Int) = ((a * b : Nat) : Int) := (Int.natCast_mul a b).symm
theorem addN (a b : Nat) : (a : Int) + (b : Int) = ((a + b : Nat) : Int) := (Int.natCast_add a b).symm
theorem wrapN (a : Nat) (ha : a < 18446744073709551616) : IntKind.u64.wrap (a : Int) = (a : Int) := by rw [IntKind.wrap_u64]; omega
theorem wrapM (a : Nat) : IntKind.u64.wrap (a : Int) = ((a % 18446744073709551616 : Nat) : Int) := by rw [IntKind.wrap_u64]; omega

set_option maxHeartbeats 1000000 in
theorem pkMul64 (x y : Nat) (hx : x < 18446744073709551616) (hy : y < 18446744073709551616) (w : World) :
    Calls Try.prog 66 #[.int .u64 x, .int .u64 y] w fun e w' => e = .returned (.tuple #[.int .u64 ((x * y / 18446744073709551616 : Nat) : Int), .int .u64 ((x * y % 18446744073709551616 : Nat) : Int)]) ∧ w = w' := by
  obtain ⟨bd, bt, bw, hhi⟩ := Lib.mul64_hi x y hx hy
  have ba := Lib.half_mul_le (a := x / 4294967296) (b := y / 4294967296) (by omega) (by omega)
  have bb := Lib.half_mul_le (a := x / 4294967296) (b := y % 4294967296) (by omega) (by omega)
  have bc := Lib.half_mul_le (a := x % 4294967296) (b := y / 4294967296) (by omega) (by omega)
  have ba' : x / 4294967296 * (y / 4294967296) < 18446744073709551616 := by omega
  have bb' : x / 4294967296 * (y % 4294967296) < 18446744073709551616 := by omega
  have bc' : x % 4294967296 * (y / 4294967296) < 18446744073709551616 := by omega
  have bh1 : x / 4294967296 * (y / 4294967296) + (x / 4294967296 * (y % 4294967296) + x % 4294967296 * (y % 4294967296) / 4294967296) / 4294967296 < 18446744073709551616 := by omega
  have bh : x / 4294967296 * (y / 4294967296) + (x / 4294967296 * (y % 4294967296) + x % 4294967296 * (y % 4294967296) / 4294967296) / 4294967296 + ((x / 4294967296 * (y % 4294967296) + x % 4294967296 * (y % 4294967296) / 4294967296) % 4294967296 + x % 4294967296 * (y / 4294967296)) / 4294967296 < 18446744073709551616 := by omega
  go_enter Try.func66, Try.ntmps66
  go_wp2
  simp only [maskN x hx, maskN y hy, divN, mulN, addN, wrapN _ bd, wrapN _ bb', wrapN _ bt, maskN _ bt, wrapN _ bc', wrapN _ bw, wrapN _ ba', wrapN _ bh1, wrapN _ bh, wrapM (x * y)]
  rw [hhi]
  ((try simp only [Exit.inBlock, Exit.then]); refine bodyPost_ret (results_tmp2 rfl _ _ _) rfl ?_)
  exact ⟨rfl, rfl⟩

set_option maxRecDepth 100000 in
set_option maxHeartbeats 1000000 in
theorem pkMul (x y hi lo : Int) (HM : Hid (∀ W, Calls Try.prog 66 #[.int .u64 x, .int .u64 y] W fun e w' => e = .returned (.tuple #[.int .u64 hi, .int .u64 lo]) ∧ W = w')) (w : World) (hx : 0 ≤ x ∧ x ≤ 100000) (hy : 0 ≤ y ∧ y ≤ 100000) (hh : 0 ≤ hi ∧ hi ≤ 100000) (hl : 0 ≤ lo ∧ lo ≤ 100000) :
    Calls Try.prog 59 #[.int .u64 x, .int .u64 y] w fun e w' => e = .returned (.tuple #[.int .u64 hi, .int .u64 lo]) ∧ w = w' := by
  obtain ⟨hx0, hx1⟩ := hx
  obtain ⟨hy0, hy1⟩ := hy
  obtain ⟨hh0, hh1⟩ := hh
  obtain ⟨hl0, hl1⟩ := hl
  go_enter Try.func59, Try.ntmps59
  go_wp2_with (go_at_call 66; go_must (refine (HM.out _).mono ?_; rintro e w1 ⟨rfl, rfl⟩))
  ((try simp only [Exit.inBlock, Exit.then]); refine bodyPost_ret (results_tmp2 rfl _ _ _) rfl ?_)
  exact ⟨rfl, rfl⟩
theorem sizeI : (Try.prog.info? 3).map (·.size) = some 1 := by kernel_rfl
theorem mk_ints (n : Nat) (hn : n ≤ 1048576) (W : World) :
    (Instr.makeSlice 28 (.int .i64 (n : Int)) (.int .i64 (n : Int))).run Try.prog W = .ok (.slice (some ⟨W.heap.size, 0, none⟩) n n) (W.alloc (.cells (iv (List.replicate n 0)).toArray 3)) := by
  obtain ⟨i0, hi, hz0, hz1, hz2⟩ := info_parts int_info0
  have h := run_make (P := Try.prog) W 28 3 i0 _ Try.underlying28 hi hz0 .i64 .i64 n n (by omega) (Int.le_refl _) (by rw [hz2]; omega) (by omega)
  have e : madeCells (Value.int .i64 0).cells ((n : Int).toNat * i0.size) = (iv (List.replicate n 0)).toArray := by
    apply Array.toList_inj.1
    rw [hz1, Int.toNat_natCast, Nat.mul_one]
    have := toList_madeCells_one (.int .i64 0) n
    rw [show (Value.int IntKind.i64 0).cells = #[.int .i64 0] from rfl, this]
    unfold iv
    simp
  rw [e] at h
  rw [h]
  rfl
theorem run_copy_iv (w : World) (b off dLen dCap : Nat) (a : Addr) (sLen sCap : Nat) (cur cs : List Int) (hg : w.heap[b]? = some (.cells (iv cur).toArray 3 (0, 0))) (hn : cs.length = Nat.min sLen dLen)
    (hsrc : ∀ j v, (iv cs)[j]? = some v → w.cell? (a.add j) = some v) (hfit : off + cs.length ≤ cur.length) :
    ∃ w', (Builtin.copy_ #[28, 28] 3 #[.slice (some ⟨b, off, none⟩) dLen dCap, .slice (some a) sLen sCap]).run Try.prog w = .ok (.int .i64 (cs.length : Int)) w' ∧
      w'.heap[b]? = some (.cells (iv (cur.take off ++ (cs ++ cur.drop (off + cs.length)))).toArray 3 (0, 0)) ∧ ∀ B w0, Below B w0 w → B ≤ b → Below B w0 w' := by
  have hrun := run_copy_row (P := Try.prog) w 28 28 3 3 b off dLen dCap a sLen sCap (iv cur).toArray 3 (iv cs) Try.underlying28 sizeI hg (by rw [iv_len]; exact hn) hsrc (by rw [iv_len]; simpa [iv] using hfit) (iv_one cs)
  rw [iv_len] at hrun
  refine ⟨_, hrun, ?_, fun B w0 hb hB => below_setRow hb hB _⟩
  have := setRow_heap w b (iv cur).toArray ((iv cur).take off ++ (iv cs ++ (iv cur).drop (off + cs.length))).toArray 3 (0, 0) hg
  rw [iv_append, iv_append]
  have e1 : iv (cur.take off) = (iv cur).take off := by unfold iv; rw [List.map_take]
  have e2 : iv (cur.drop (off + cs.length)) = (iv cur).drop (off + cs.length) := by unfold iv; rw [List.map_drop]
  rw [e1, e2, List.append_assoc]
  exact this
theorem rep_splice (k w m : Nat) (n : Int) (hk : k + m ≤ w) : (List.replicate k n ++ List.replicate (w - k) 0).take k ++ (List.replicate m n ++ (List.replicate k n ++ List.replicate (w - k) 0).drop (k + (List.replicate m n).length)) = List.replicate (k + m) n ++ List.replicate (w - (k + m)) 0 := by
  rw [List.take_left' (by simp), List.length_replicate, ← List.drop_drop, List.drop_left' (by simp)]
  simp
  rw [← List.append_assoc, List.replicate_append_replicate, Nat.sub_sub]

set_option maxRecDepth 100000 in
set_option maxHeartbeats 4000000 in
theorem repeat_any {W : World} {g : Nat} (n : Int) (w : Nat) (h1 : 1 ≤ w) (h2 : w ≤ 8194) (hg : g < W.heap.size) (hc : W.cell? ⟨g, 0, none⟩ = some (.int .i64 n)) :
    Calls Try.prog 44 #[.slice (some ⟨g, 0, none⟩) 1 1, .int .i64 (w : Int)] W fun e W' => ∃ v, e = .returned v ∧ W'.ownsRow W.heap.size intT 1 v w (iv (List.replicate w n)) ∧ Below W.heap.size W W' := by
  have HM : Hid (∀ W', Calls Try.prog 59 #[.int .u64 1, .int .u64 (w : Int)] W' fun e w' => e = .returned (.tuple #[.int .u64 0, .int .u64 (w : Int)]) ∧ W' = w') := Lib.hid fun W' => by
    refine pkMul 1 (w : Int) 0 (w : Int) (Lib.hid fun W => ?_) W' (by omega) (by omega) (by omega) (by omega)
    have := pkMul64 1 w (by omega) (by omega) W
    have e1 : ((1 * w / 18446744073709551616 : Nat) : Int) = 0 := by omega
    have e2 : ((1 * w % 18446744073709551616 : Nat) : Int) = (w : Int) := by omega
    rw [e1, e2] at this
    exact this
  have hw0 : ¬ (w : Int) < 0 := by omega
  have hw1 : (w : Int) ≤ 8194 := by omega
  have hw9 : ¬ (9223372036854775807 : Int) < (w : Int) := by omega
  have hwd : decide ((9223372036854775807 : Int) < (w : Int)) = false := decide_eq_false hw9
  have hmk := fun W => mk_ints w (by omega) W
  obtain ⟨w2, hcp, hg2, hb2⟩ := run_copy_iv (W.alloc (.cells (iv (List.replicate w 0)).toArray 3)) W.heap.size 0 w w ⟨g, 0, none⟩ 1 1 (List.replicate w 0) [n] (heap_alloc_new W _) (Nat.min_eq_left h1).symm (fun j v hj => by
    match j, hj with
    | 0, hj => cases hj; exact (World.cell?_alloc_lt _ _ _ hg).trans hc
    | j + 1, hj => simp [iv] at hj) (by simp; omega)
  have HB2 := Lib.hid (hb2 W.heap.size W ((Below.refl _ _).alloc (Nat.le_refl _) _) (Nat.le_refl _))
  have HG2 : Hid (w2.heap[W.heap.size]? = some (.cells (iv (List.replicate 1 n ++ List.replicate (w - 1) 0)).toArray 3 (0, 0))) := Lib.hid (by
    have := rep_splice 0 w 1 n (by omega)
    simp only [List.replicate_zero, List.nil_append, Nat.zero_add, Nat.sub_zero] at this
    rw [← this]
    exact hg2)
  clear hg2 hb2
  have hcp : (Builtin.copy_ #[28, 28] 3 #[.slice (some ⟨W.heap.size, 0, none⟩) w w, .slice (some ⟨g, 0, none⟩) 1 1]).run Try.prog (W.alloc (.cells (iv (List.replicate w 0)).toArray 3)) = .ok (.int .i64 1) w2 := hcp
  go_enter Try.func44, Try.ntmps44
  go_wp2_with (go_at_call 59; go_must (refine (HM.out _).mono ?_; rintro e w1 ⟨rfl, rfl⟩))
  clear hcp hmk
  go_loopw [8] (fun x wr => ∃ k : Nat, x = .int .i64 (k : Int) ∧ 1 ≤ k ∧ k ≤ w ∧ Hid (Below W.heap.size W wr) ∧ Hid (wr.heap[W.heap.size]? = some (.cells (iv (List.replicate k n ++ List.replicate (w - k) 0)).toArray 3 (0, 0)))) (fun x _ => w - (intOf x).toNat)
  case atStart => exact ⟨1, rfl, Nat.le_refl _, h1, HB2, HG2⟩
  case round =>
    obtain ⟨k, rfl, hk1, hk2, HB, HG⟩ := hrel
    by_cases hlt : k < w
    · have hltI : (k : Int) < (w : Int) := by omega
      have hk0 : (0 : Int) ≤ (k : Int) := by omega
      have hwk : ¬ w = k := by omega
      have hkw : (k : Int) ≤ (w : Int) := by omega
      obtain ⟨m, hm⟩ : ∃ m, m = Nat.min k (w - k) := ⟨_, rfl⟩
      have hmm : m = min k (w - k) := hm
      have hmk : m ≤ k := by omega
      have hmw : m ≤ w - k := by omega
      have hm1 : 1 ≤ m := by omega
      obtain ⟨w3, hcp, hg3, hb3⟩ := run_copy_iv wr.drew W.heap.size k (w - k) (w - k) ⟨W.heap.size, 0, none⟩ k w (List.replicate k n ++ List.replicate (w - k) 0) (List.replicate m n) HG.out (by rw [List.length_replicate, hm]) (fun j v hj => by
        rw [Addr.add_lit, Nat.zero_add]
        have hjm : j < m := by have := (List.getElem?_eq_some_iff.1 hj).1; rwa [iv_len, List.length_replicate] at this
        have := cell_of_row wr W.heap.size j _ _ _ HG.out
        refine this.trans ?_
        rw [← hj]
        show (iv (List.replicate k n ++ List.replicate (w - k) 0)).toArray[j]? = _
        rw [List.getElem?_toArray, iv_append, List.getElem?_append_left (by rw [iv_len, List.length_replicate]; omega), iv_get _ _ (by rw [List.length_replicate]; omega), iv_get _ _ (by rw [List.length_replicate]; omega)]
        simp) (by simp; omega)
      rw [List.length_replicate] at hcp
      have HB3 := Lib.hid (hb3 W.heap.size W HB.out.drew (Nat.le_refl _))
      have HG3 : Hid (w3.heap[W.heap.size]? = some (.cells (iv (List.replicate (k + m) n ++ List.replicate (w - (k + m)) 0)).toArray 3 (0, 0))) := Lib.hid (by rw [← rep_splice k w m n (by omega)]; exact hg3)
      have hkm : k + m ≤ w := by omega
      have hkm1 : 1 ≤ k + m := by omega
      have hms : w - (k + m) < w - k := by omega
      have hwr : IntKind.i64.wrap ((k : Int) + (m : Int)) = ((k + m : Nat) : Int) := by rw [IntKind.wrap_i64]; omega
      clear hg3 hb3 hm hmm
      go_wp2_with fail
      go_region_law (fail)
      all_goals
        try go_simp
        go_wp2_with fail
        go_roundw
        case rel => exact ⟨k + m, by first | go_num | (rw [hwr]), hkm1, hkm, HB3, HG3⟩
        case measure => simp [intOf]; omega
    · have hltI : ¬ (k : Int) < (w : Int) := by omega
      obtain rfl : k = w := by omega
      go_wp2_with fail
      go_ret
      refine ⟨_, rfl, ⟨by rw [iv_len, List.length_replicate, Nat.mul_one], .inr ⟨W.heap.size, k, _, rfl, Nat.le_refl _, HG.out, Nat.le_refl _, by unfold maxLen; omega, by simp [iv], ?_⟩⟩, HB.out⟩
      simp [iv]
end Pk
end Go.Proofs.Ytedppnejkjcplaa
