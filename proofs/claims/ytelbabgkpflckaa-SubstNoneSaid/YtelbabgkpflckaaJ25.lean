/-
  PkRep: CONTRACTS: the library's slices.Repeat over one int, as chapter 12 calls it; math/bits.Mul.
  PkNewP: CHAPTER 12, MEMORY: a search's object as newSearch lays it.
  PkNew: CONTRACTS: chapter 12: newSearch.
-/
import Derived.Test.YtelbabgkpflckaaJ23
import Derived.Lib.Mul64
import Derived.Laws.CopyOwn
import Derived.RegionTactic
import Derived.Deep.RegionLaw
import Derived.Test.YtelbabgkpflckaaJ24

set_option linter.unusedSimpArgs false
set_option linter.unusedVariables false
namespace Go.Proofs.Ytelbabgkpflckaa
open Go.RowKit
open Me
namespace Pk
theorem maskN (a : Nat) (ha : a < 18446744073709551616) : bits .and .u64 (a : Int) 4294967295 = ((a % 4294967296 : Nat) : Int) := by
  have h := bits_and_u64_nat a 4294967295 ha (by omega)
  have e : a &&& 4294967295 = a % 4294967296 := Nat.and_two_pow_sub_one_eq_mod a 32
  rw [e] at h
  exact h
theorem divN (a : Nat) : (a : Int) / 4294967296 = ((a / 4294967296 : Nat) : Int) := by omega
theorem mulN (a b : Nat) : (a : Int) * (b : Int) = ((a * b : Nat) : Int) := (Int.natCast_mul a b).symm
theorem addN (a b : Nat) : (a : Int) + (b : Int) = ((a + b : Nat) : Int) := (Int.natCast_add a b).symm
theorem wrapN (a : Nat) (ha : a < 18446744073709551616) : IntKind.u64.wrap (a : Int) = (a : Int) := by rw [IntKind.wrap_u64]; omega
theorem wrapM (a : Nat) : IntKind.u64.wrap (a : Int) = ((a % 18446744073709551616 : Nat) : Int) := by rw [IntKind.wrap_u64]; omega

set_option maxHeartbeats 1000000 in
theorem pkMul64 (x y : Nat) (hx : x < 18446744073709551616) (hy : y < 18446744073709551616) (w : World) :
    Calls Try.prog 61 #[.int .u64 x, .int .u64 y] w fun e w' => e = .returned (.tuple #[.int .u64 ((x * y / 18446744073709551616 : Nat) : Int), .int .u64 ((x * y % 18446744073709551616 : Nat) : Int)]) ∧ w = w' := by
  obtain ⟨bd, bt, bw, hhi⟩ := Lib.mul64_hi x y hx hy
  have ba := Lib.half_mul_le (a := x / 4294967296) (b := y / 4294967296) (by omega) (by omega)
  have bb := Lib.half_mul_le (a := x / 4294967296) (b := y % 4294967296) (by omega) (by omega)
  have bc := Lib.half_mul_le (a := x % 4294967296) (b := y / 4294967296) (by omega) (by omega)
  have ba' : x / 4294967296 * (y / 4294967296) < 18446744073709551616 := by omega
  have bb' : x / 4294967296 * (y % 4294967296) < 18446744073709551616 := by omega
  have bc' : x % 4294967296 * (y / 4294967296) < 18446744073709551616 := by omega
  have bh1 : x / 4294967296 * (y / 4294967296) + (x / 4294967296 * (y % 4294967296) + x % 4294967296 * (y % 4294967296) / 4294967296) / 4294967296 < 18446744073709551616 := by omega
  have bh : x / 4294967296 * (y / 4294967296) + (x / 4294967296 * (y % 4294967296) + x % 4294967296 * (y % 4294967296) / 4294967296) / 4294967296 + ((x / 4294967296 * (y % 4294967296) + x % 4294967296 * (y % 4294967296) / 4294967296) % 4294967296 + x % 4294967296 * (y / 4294967296)) / 4294967296 < 18446744073709551616 := by omega
  go_enter Try.func61, Try.ntmps61
  go_wp2
  simp only [maskN x hx, maskN y hy, divN, mulN, addN, wrapN _ bd, wrapN _ bb', wrapN _ bt, maskN _ bt, wrapN _ bc', wrapN _ bw, wrapN _ ba', wrapN _ bh1, wrapN _ bh, wrapM (x * y)]
  rw [hhi]
  ((try simp only [Exit.inBlock, Exit.then]); refine bodyPost_ret (results_tmp2 rfl _ _ _) rfl ?_)
  exact ⟨rfl, rfl⟩

set_option maxRecDepth 100000 in
set_option maxHeartbeats 1000000 in
theorem pkMul (x y hi lo : Int) (HM : Hid (∀ W, Calls Try.prog 61 #[.int .u64 x, .int .u64 y] W fun e w' => e = .returned (.tuple #[.int .u64 hi, .int .u64 lo]) ∧ W = w')) (w : World) (hx : 0 ≤ x ∧ x ≤ 100000) (hy : 0 ≤ y ∧ y ≤ 100000) (hh : 0 ≤ hi ∧ hi ≤ 100000) (hl : 0 ≤ lo ∧ lo ≤ 100000) :
    Calls Try.prog 53 #[.int .u64 x, .int .u64 y] w fun e w' => e = .returned (.tuple #[.int .u64 hi, .int .u64 lo]) ∧ w = w' := by
  obtain ⟨hx0, hx1⟩ := hx
  obtain ⟨hy0, hy1⟩ := hy
  obtain ⟨hh0, hh1⟩ := hh
  obtain ⟨hl0, hl1⟩ := hl
  go_enter Try.func53, Try.ntmps53
  go_wp2_with (go_at_call 61; go_must (refine (HM.out _).mono ?_; rintro e w1 ⟨rfl, rfl⟩))
  ((try simp only [Exit.inBlock, Exit.then]); refine bodyPost_ret (results_tmp2 rfl _ _ _) rfl ?_)
  exact ⟨rfl, rfl⟩
theorem sizeI : (Try.prog.info? 3).map (·.size) = some 1 := by kernel_rfl
theorem mk_ints (n : Nat) (hn : n ≤ 1048576) (W : World) :
    (Instr.makeSlice 28 (.int .i64 (n : Int)) (.int .i64 (n : Int))).run Try.prog W = .ok (.slice (some ⟨W.heap.size, 0, none⟩) n n) (W.alloc (.cells (iv (List.replicate n 0)).toArray 3)) := by
  obtain ⟨i0, hi, hz0, hz1, hz2⟩ := info_parts int_info0
  have h := run_make (P := Try.prog) W 28 3 i0 _ Try.underlying28 hi hz0 .i64 .i64 n n (by omega) (Int.le_refl _) (by rw [hz2]; omega) (by omega)
  have e : madeCells (Value.int .i64 0).cells ((n : Int).toNat * i0.size) = (iv (List.replicate n 0)).toArray := by
    apply Array.toList_inj.1
    rw [hz1, Int.toNat_natCast, Nat.mul_one]
    have := toList_madeCells_one (.int .i64 0) n
    rw [show (Value.int IntKind.i64 0).cells = #[.int .i64 0] from rfl, this]
    unfold iv
    simp
  rw [e] at h
  rw [h]
  rfl
theorem run_copy_iv (w : World) (b off dLen dCap : Nat) (a : Addr) (sLen sCap : Nat) (cur cs : List Int) (hg : w.heap[b]? = some (.cells (iv cur).toArray 3 (0, 0))) (hn : cs.length = Nat.min sLen dLen)
    (hsrc : ∀ j v, (iv cs)[j]? = some v → w.cell? (a.add j) = some v) (hfit : off + cs.length ≤ cur.length) :
    ∃ w', (Builtin.copy_ #[28, 28] 3 #[.slice (some ⟨b, off, none⟩) dLen dCap, .slice (some a) sLen sCap]).run Try.prog w = .ok (.int .i64 (cs.length : Int)) w' ∧
      w'.heap[b]? = some (.cells (iv (cur.take off ++ (cs ++ cur.drop (off + cs.length)))).toArray 3 (0, 0)) ∧ ∀ B w0, Below B w0 w → B ≤ b → Below B w0 w' := by
  have hrun := run_copy_row (P := Try.prog) w 28 28 3 3 b off dLen dCap a sLen sCap (iv cur).toArray 3 (iv cs) Try.underlying28 sizeI hg (by rw [iv_len]; exact hn) hsrc (by rw [iv_len]; simpa [iv] using hfit) (iv_one cs)
  rw [iv_len] at hrun
  refine ⟨_, hrun, ?_, fun B w0 hb hB => below_setRow hb hB _⟩
  have := setRow_heap w b (iv cur).toArray ((iv cur).take off ++ (iv cs ++ (iv cur).drop (off + cs.length))).toArray 3 (0, 0) hg
  rw [iv_append, iv_append]
  have e1 : iv (cur.take off) = (iv cur).take off := by unfold iv; rw [List.map_take]
  have e2 : iv (cur.drop (off + cs.length)) = (iv cur).drop (off + cs.length) := by unfold iv; rw [List.map_drop]
  rw [e1, e2, List.append_assoc]
  exact this
theorem rep_splice (k w m : Nat) (n : Int) (hk : k + m ≤ w) : (List.replicate k n ++ List.replicate (w - k) 0).take k ++ (List.replicate m n ++ (List.replicate k n ++ List.replicate (w - k) 0).drop (k + (List.replicate m n).length)) = List.replicate (k + m) n ++ List.replicate (w - (k + m)) 0 := by
  rw [List.take_left' (by simp), List.length_replicate, ← List.drop_drop, List.drop_left' (by simp)]
  simp
  rw [← List.append_assoc, List.replicate_append_replicate, Nat.sub_sub]

set_option maxRecDepth 100000 in
set_option maxHeartbeats 4000000 in
theorem repeat_any {W : World} {g : Nat} (n : Int) (w : Nat) (h1 : 1 ≤ w) (h2 : w ≤ 8194) (hg : g < W.heap.size) (hc : W.cell? ⟨g, 0, none⟩ = some (.int .i64 n)) :
    Calls Try.prog 38 #[.slice (some ⟨g, 0, none⟩) 1 1, .int .i64 (w : Int)] W fun e W' => ∃ v, e = .returned v ∧ W'.ownsRow W.heap.size intT 1 v w (iv (List.replicate w n)) ∧ Below W.heap.size W W' := by
  have HM : Hid (∀ W', Calls Try.prog 53 #[.int .u64 1, .int .u64 (w : Int)] W' fun e w' => e = .returned (.tuple #[.int .u64 0, .int .u64 (w : Int)]) ∧ W' = w') := Lib.hid fun W' => by
    refine pkMul 1 (w : Int) 0 (w : Int) (Lib.hid fun W => ?_) W' (by omega) (by omega) (by omega) (by omega)
    have := pkMul64 1 w (by omega) (by omega) W
    have e1 : ((1 * w / 18446744073709551616 : Nat) : Int) = 0 := by omega
    have e2 : ((1 * w % 18446744073709551616 : Nat) : Int) = (w : Int) := by omega
    rw [e1, e2] at this
    exact this
  have hw0 : ¬ (w : Int) < 0 := by omega
  have hw1 : (w : Int) ≤ 8194 := by omega
  have hw9 : ¬ (9223372036854775807 : Int) < (w : Int) := by omega
  have hwd : decide ((9223372036854775807 : Int) < (w : Int)) = false := decide_eq_false hw9
  have hmk := fun W => mk_ints w (by omega) W
  obtain ⟨w2, hcp, hg2, hb2⟩ := run_copy_iv (W.alloc (.cells (iv (List.replicate w 0)).toArray 3)) W.heap.size 0 w w ⟨g, 0, none⟩ 1 1 (List.replicate w 0) [n] (heap_alloc_new W _) (Nat.min_eq_left h1).symm (fun j v hj => by
    match j, hj with
    | 0, hj => cases hj; exact (World.cell?_alloc_lt _ _ _ hg).trans hc
    | j + 1, hj => simp [iv] at hj) (by simp; omega)
  have HB2 := Lib.hid (hb2 W.heap.size W ((Below.refl _ _).alloc (Nat.le_refl _) _) (Nat.le_refl _))
  have HG2 : Hid (w2.heap[W.heap.size]? = some (.cells (iv (List.replicate 1 n ++ List.replicate (w - 1) 0)).toArray 3 (0, 0))) := Lib.hid (by
    have := rep_splice 0 w 1 n (by omega)
    simp only [List.replicate_zero, List.nil_append, Nat.zero_add, Nat.sub_zero] at this
    rw [← this]
    exact hg2)
  clear hg2 hb2
  have hcp : (Builtin.copy_ #[28, 28] 3 #[.slice (some ⟨W.heap.size, 0, none⟩) w w, .slice (some ⟨g, 0, none⟩) 1 1]).run Try.prog (W.alloc (.cells (iv (List.replicate w 0)).toArray 3)) = .ok (.int .i64 1) w2 := hcp
  go_enter Try.func38, Try.ntmps38
  go_wp2_with (go_at_call 53; go_must (refine (HM.out _).mono ?_; rintro e w1 ⟨rfl, rfl⟩))
  clear hcp hmk
  go_loopw [8] (fun x wr => ∃ k : Nat, x = .int .i64 (k : Int) ∧ 1 ≤ k ∧ k ≤ w ∧ Hid (Below W.heap.size W wr) ∧ Hid (wr.heap[W.heap.size]? = some (.cells (iv (List.replicate k n ++ List.replicate (w - k) 0)).toArray 3 (0, 0)))) (fun x _ => w - (intOf x).toNat)
  case atStart => exact ⟨1, rfl, Nat.le_refl _, h1, HB2, HG2⟩
  case round =>
    obtain ⟨k, rfl, hk1, hk2, HB, HG⟩ := hrel
    by_cases hlt : k < w
    · have hltI : (k : Int) < (w : Int) := by omega
      have hk0 : (0 : Int) ≤ (k : Int) := by omega
      have hwk : ¬ w = k := by omega
      have hkw : (k : Int) ≤ (w : Int) := by omega
      obtain ⟨m, hm⟩ : ∃ m, m = Nat.min k (w - k) := ⟨_, rfl⟩
      have hmm : m = min k (w - k) := hm
      have hmk : m ≤ k := by omega
      have hmw : m ≤ w - k := by omega
      have hm1 : 1 ≤ m := by omega
      obtain ⟨w3, hcp, hg3, hb3⟩ := run_copy_iv wr.drew W.heap.size k (w - k) (w - k) ⟨W.heap.size, 0, none⟩ k w (List.replicate k n ++ List.replicate (w - k) 0) (List.replicate m n) HG.out (by rw [List.length_replicate, hm]) (fun j v hj => by
        rw [Addr.add_lit, Nat.zero_add]
        have hjm : j < m := by have := (List.getElem?_eq_some_iff.1 hj).1; rwa [iv_len, List.length_replicate] at this
        have := cell_of_row wr W.heap.size j _ _ _ HG.out
        refine this.trans ?_
        rw [← hj]
        show (iv (List.replicate k n ++ List.replicate (w - k) 0)).toArray[j]? = _
        rw [List.getElem?_toArray, iv_append, List.getElem?_append_left (by rw [iv_len, List.length_replicate]; omega), iv_get _ _ (by rw [List.length_replicate]; omega), iv_get _ _ (by rw [List.length_replicate]; omega)]
        simp) (by simp; omega)
      rw [List.length_replicate] at hcp
      have HB3 := Lib.hid (hb3 W.heap.size W HB.out.drew (Nat.le_refl _))
      have HG3 : Hid (w3.heap[W.heap.size]? = some (.cells (iv (List.replicate (k + m) n ++ List.replicate (w - (k + m)) 0)).toArray 3 (0, 0))) := Lib.hid (by rw [← rep_splice k w m n (by omega)]; exact hg3)
      have hkm : k + m ≤ w := by omega
      have hkm1 : 1 ≤ k + m := by omega
      have hms : w - (k + m) < w - k := by omega
      have hwr : IntKind.i64.wrap ((k : Int) + (m : Int)) = ((k + m : Nat) : Int) := by rw [IntKind.wrap_i64]; omega
      clear hg3 hb3 hm hmm
      go_wp2_with fail
      go_region_law (fail)
      all_goals
        try go_simp
        go_wp2_with fail
        go_roundw
        case rel => exact ⟨k + m, by first | go_num | (rw [hwr]), hkm1, hkm, HB3, HG3⟩
        case measure => simp [intOf]; omega
    · have hltI : ¬ (k : Int) < (w : Int) := by omega
      obtain rfl : k = w := by omega
      go_wp2_with fail
      go_ret
      refine ⟨_, rfl, ⟨by rw [iv_len, List.length_replicate, Nat.mul_one], .inr ⟨W.heap.size, k, _, rfl, Nat.le_refl _, HG.out, Nat.le_refl _, by unfold maxLen; omega, by simp [iv], ?_⟩⟩, HB.out⟩
      simp [iv]
end Pk
end Go.Proofs.Ytelbabgkpflckaa

namespace Go.Proofs.Ytelbabgkpflckaa
open Go.RowKit Go.Sort
open Me
open Pk
namespace Pk
open Rx (In)
theorem cell_new {w : World} {g : Nat} {v : Value} {t : TypeId} (h : g = w.heap.size) : (w.alloc (.cells #[v] t)).cell? ⟨g, 0, none⟩ = some v := by
  subst h
  exact ((RowAt.new w _ _).cell 0).trans rfl
theorem kept_heap {X Y : World} (h : Below X.heap.size X Y) : ∀ (g : Nat) (o : Obj), X.heap[g]? = some o → Y.heap[g]? = some o := fun g _ e => (h.block g (Array.getElem?_eq_some_iff.1 e).1).trans e
theorem chain {W X Y : World} (h : Below X.heap.size X Y) (k : Below W.heap.size W X) : Below W.heap.size W Y := k.trans (h.mono k.size)
theorem hnew {w : World} {g : Nat} {cs : Array Value} {t : TypeId} (h : g = w.heap.size) : (w.alloc (.cells cs t)).heap[g]? = some (.cells cs t (0, 0)) := by
  subst h
  exact heap_alloc_new w _
/-- What newSearch leaves. -/
def Newed (W : World) (L : List In) (t : List UInt8) (w : Nat) (e : Ending) (W' : World) : Prop :=
  ∃ sb c, e = .returned (.pointer (some ⟨sb, 0, none⟩)) ∧ Below W.heap.size W W' ∧ (∀ k, Sv c W' sb k [] none) ∧ c.L = L ∧ c.t = t ∧ c.wd = w ∧ c.b0 = W.heap.size
theorem fresh {W X : World} {A : Option Addr} {cp : Nat} {L : List In} {t : List UInt8} {w gz g1 k1 B sb n : Nat} (hsb : sb = X.heap.size) (hn : n = L.length) (hbX : Below W.heap.size W X) (hp : Rd W (fun _ => True) A (icells L))
    (hz : X.heap[gz]? = some (.cells (iv (List.replicate L.length 0)).toArray 3 (0, 0))) (hgz : W.heap.size ≤ gz) (ho : X.ownsRow B intT 1 (.slice (some ⟨g1, 0, none⟩) w k1) w (iv (List.replicate w (-1)))) (hB : W.heap.size ≤ B) (hne : gz ≠ g1)
    (hw2 : 2 ≤ w) (hw4 : w ≤ 4096) (hL : L.length ≤ 4096) (ht : t.length ≤ 1048576) :
    Newed W L t w (.returned (.pointer (some ⟨sb, 0, none⟩))) (X.alloc (.cells #[.slice A n cp, .string ⟨t.toArray⟩, .slice (some ⟨gz, 0, none⟩) n n, .slice (some ⟨g1, 0, none⟩) w k1, .int .i64 (w : Int), .slice none 0 0, .slice none 0 0, .int .i64 (w : Int), .slice none 0 0, .slice none 0 0, .slice none 0 0, .slice none 0 0] 67)) := by
  subst hsb
  subst hn
  have hzl : gz < X.heap.size := (Array.getElem?_eq_some_iff.1 hz).1
  have hgl := World.ownsRow.lt ho g1 rfl
  refine ⟨X.heap.size, { b0 := W.heap.size, pa := A, pc := cp, dv := .slice (some ⟨gz, 0, none⟩) L.length L.length, bv := .slice (some ⟨g1, 0, none⟩) w k1, no := .slice none 0 0, nh := .slice none 0 0, xo := .slice none 0 0, xh := .slice none 0 0, tv := .slice none 0 0, fv := .slice none 0 0, L := L, t := t, wd := w, dn := List.replicate L.length 0, bl := blank w, nofs := [], nhds := [], xofs := [], xhds := [], ts := [], fl := [] }, rfl, hbX.alloc hbX.size _, fun k => ?_, rfl, rfl, rfl, rfl⟩
  have hnil : ∀ (e : TypeId) (s : Nat) (V : World) (b : Nat), V.ownsRow b e s (.slice none 0 0) 0 [] := fun e s V b => ⟨by simp, .inl ⟨rfl, rfl⟩⟩
  refine ⟨⟨RowAt.new X _ _, ?_, ?_, ?_, hL, ht, hw4, hw2, fun a ha => by cases ha⟩, rfl, rfl, (fun e he => by cases he), Nat.zero_le _, rfl, rfl, rfl, ?_, ⟨rfl, rfl⟩⟩
  · refine ⟨?_, ?_, ?_, hbX.size⟩
    · intro o ho2
      unfold Cs.own at ho2
      simp only [List.mem_cons, List.not_mem_nil, or_false] at ho2
      rcases ho2 with rfl | rfl | rfl | rfl | rfl | rfl | rfl | rfl
      · show World.ownsRow _ W.heap.size intT 1 (.slice (some ⟨gz, 0, none⟩) L.length L.length) (List.replicate L.length 0).length (iv (List.replicate L.length 0))
        rw [List.length_replicate]
        refine ⟨by rw [iv_len, List.length_replicate, Nat.mul_one], .inr ⟨gz, L.length, _, rfl, hgz, (Below.heap_alloc X _ gz hzl).trans hz, Nat.le_refl _, by unfold maxLen; omega, by simp [iv], by simp [iv]⟩⟩
      · show World.ownsRow _ W.heap.size intT 1 (.slice (some ⟨g1, 0, none⟩) w k1) (blank w).length (iv (blank w))
        unfold blank
        rw [List.length_replicate]
        have h2 := ho.alloc (.cells #[.slice A L.length cp, .string ⟨t.toArray⟩, .slice (some ⟨gz, 0, none⟩) L.length L.length, .slice (some ⟨g1, 0, none⟩) w k1, .int .i64 (w : Int), .slice none 0 0, .slice none 0 0, .int .i64 (w : Int), .slice none 0 0, .slice none 0 0, .slice none 0 0, .slice none 0 0] 67)
        refine ⟨h2.1, ?_⟩
        rcases h2.2 with hn | ⟨g, cap, cur, hv, hb, rest⟩
        · exact .inl hn
        · exact .inr ⟨g, cap, cur, hv, by omega, rest⟩
      all_goals exact hnil _ _ _ _
    · unfold Cs.own
      have ap : ∀ v : Value, Apart v (.slice none 0 0) := fun v g _ e => by cases e
      have pa : ∀ v : Value, Apart (.slice none 0 0) v := fun v g e => by cases e
      simp only [List.pairwise_cons, List.mem_cons, List.not_mem_nil, or_false, List.Pairwise.nil, and_true]
      refine ⟨?_, ?_, ?_, ?_, ?_, ?_, ?_, ?_⟩
      · intro o ho2
        rcases ho2 with rfl | rfl | rfl | rfl | rfl | rfl | rfl
        · intro g e1 e2
          have e1 : some gz = some g := e1
          have e2 : some g1 = some g := e2
          apply hne
          have := Option.some.inj (e1.trans e2.symm)
          exact this
        all_goals exact ap _
      · intro o ho2
        rcases ho2 with rfl | rfl | rfl | rfl | rfl | rfl <;> exact ap _
      all_goals intro o ho2
      all_goals exact pa _
    · intro o ho2
      unfold Cs.own at ho2
      simp only [List.mem_cons, List.not_mem_nil, or_false] at ho2
      rcases ho2 with rfl | rfl | rfl | rfl | rfl | rfl | rfl | rfl
      · intro e
        have : some gz = some X.heap.size := e
        have := Option.some.inj this
        omega
      · intro e
        have : some g1 = some X.heap.size := e
        have := Option.some.inj this
        omega
      all_goals intro e; cases e
  · intro hn
    obtain ⟨ad, e, hl, _, hc⟩ := hp hn
    have hs := hbX.size
    refine ⟨ad, e, by rw [alloc_size]; omega, hl, fun j u hu => ?_⟩
    refine (World.cell?_of_block (w := W) (a := ad.add j) ?_).trans (hc j u hu)
    rw [Me.block_add]
    exact (Below.heap_alloc X _ _ (by omega)).trans (hbX.block _ hl)
  · exact List.length_replicate
  · intro n hn
    have := List.eq_of_mem_replicate hn
    omega
end Pk
end Go.Proofs.Ytelbabgkpflckaa

namespace Go.Proofs.Ytelbabgkpflckaa
open Go.RowKit Go.Sort
open Me
open Pk

set_option maxRecDepth 100000 in
set_option maxHeartbeats 8000000 in
theorem newSearch_any {W : World} {A : Option Addr} {cp : Nat} {L : List Rx.In} {t : List UInt8} {G : Nat} (hp : Rd W (fun _ => True) A (icells L)) (hL : L.length ≤ 4096) (ht : t.length ≤ 1048576) (hG : G ≤ 2000) :
    Calls Try.prog 24 #[.agg #[.int .i64 (G : Int), .slice A L.length cp], .string ⟨t.toArray⟩] W (Pk.Newed W L t (2 * G + 2)) := by
  have hmk := fun W => mk_ints L.length (by omega) W
  obtain ⟨w, hwd⟩ : ∃ w : Nat, w = 2 * G + 2 := ⟨_, rfl⟩
  have hwr : IntKind.i64.wrap ((2 : Int) * (G : Int)) = 2 * (G : Int) := by rw [IntKind.wrap_i64]; omega
  have hwr2 : IntKind.i64.wrap (2 * (G : Int) + 2) = (w : Int) := by rw [IntKind.wrap_i64]; omega
  have hGI : (0 : Int) ≤ (G : Int) := by omega
  have hGI2 : (G : Int) ≤ 2000 := by omega
  have hwI : (2 : Int) * (G : Int) + 2 = (w : Int) := by omega
  have hw2 : 2 ≤ w := by omega
  have hw4 : w ≤ 4096 := by omega
  rw [← hwd]
  have HP := Lib.hid hp
  have hbase : (W.alloc (.cells #[.int .i64 (G : Int), .slice A L.length cp] 24)).cell? ⟨W.heap.size, 1, none⟩ = some (.slice A L.length cp) := ((RowAt.new W _ _).cell 1).trans rfl
  have HBASE := Lib.hid hbase
  have HB0 : Hid (Below W.heap.size W (W.alloc (.cells #[.int .i64 (G : Int), .slice A L.length cp] 24))) := Lib.hid ((Below.refl _ _).alloc (Nat.le_refl _) _)
  clear hbase hwd hp
  go_enter Try.func24, Try.ntmps24
  go_wp2_with fail
  go_region_law (go_simp; first
    | (go_at_call 38; go_must (refine (Pk.repeat_any (-1) w (by omega) (by omega) (by simp) (by first | exact Pk.cell_new (by simp) | exact (World.cell?_alloc_lt _ _ _ (by simp)).trans (Pk.cell_new (by simp)))).mono ?_; rintro e w1 ⟨v1, rfl, ho1, hb1⟩; obtain ⟨g1, k1, rfl, hg1, hg2⟩ := own_some ho1 (by omega); have p1 : w1.cell? ⟨W.heap.size, 1, none⟩ = some (.slice A L.length cp) := (hb1.cell (p := ⟨W.heap.size, 1, none⟩) (by first | (simp; done) | (simp; omega))).trans (by first | exact (World.cell?_alloc_lt _ _ _ (by first | (simp; done) | (simp; omega))).trans HBASE.out | exact (World.cell?_alloc_lt _ _ _ (by first | (simp; done) | (simp; omega))).trans ((World.cell?_alloc_lt _ _ _ (by first | (simp; done) | (simp; omega))).trans HBASE.out)); have hx1 : W.heap.size < w1.heap.size := Nat.lt_of_lt_of_le (by first | (simp; done) | (simp; omega)) hb1.size; have HX2 := Lib.hid hb1.size; have HG1 := Lib.hid hg1; have HG2 := Lib.hid hg2; have HZ := Lib.hid (Pk.kept_heap hb1); have hbw : Below W.heap.size W w1 := (by refine Pk.chain hb1 ?_; first | exact (HB0.out.alloc (by first | (simp; done) | (simp; omega)) _).drew | exact ((HB0.out.alloc (by first | (simp; done) | (simp; omega)) _).alloc (by first | (simp; done) | (simp; omega)) _).drew | exact HB0.out.alloc (by first | (simp; done) | (simp; omega)) _ | exact (HB0.out.alloc (by first | (simp; done) | (simp; omega)) _).alloc (by first | (simp; done) | (simp; omega)) _); have HBW := Lib.hid hbw; clear hbw; have HO1 := Lib.hid ho1; clear ho1 hb1 hg1 hg2)))
  all_goals
    try go_simp
    try go_wp2_with fail
    go_ret
    have hg1 := HG1.out
    have hg2 := HG2.out
    have hx2 := HX2.out
    try simp at hg1 hx2
    refine Pk.fresh (by first | rfl | (simp; done)) rfl (by first | exact HBW.out | exact HBW.out.alloc (by omega) _) HP.out (by first | exact Pk.hnew (by simp) | exact HZ.out _ _ (Pk.hnew (by simp)) | exact HZ.out _ _ ((Below.heap_alloc _ _ _ (by simp)).trans (Pk.hnew (by simp)))) (by first | omega | (simp; omega) | (simp; done)) (by first | exact HO1.out | exact HO1.out.alloc _) (by first | omega | (simp; omega) | (simp; done)) (by first | omega | (simp; omega)) hw2 hw4 hL ht
end Go.Proofs.Ytelbabgkpflckaa
