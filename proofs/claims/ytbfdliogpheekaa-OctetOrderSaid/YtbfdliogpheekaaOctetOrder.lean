/-
  OctetOrder: numbers of a size stand in the order of their bytes, and of which sizes a number may be. For every input, without a condition.
-/
import Derived.Test.YtbfdliogpheekaaRows
import Derived.WalkKit
import Derived.ProofKit
import Derived.OpenShut
import Derived.ShutString
import Derived.ChangeOld
import Derived.Below
import Derived.Test.YtbfdliogpheekaaOctW
namespace Go.Proofs.Ytbfdliogpheekaa.octetOrder
open Go.ChangeShapes Go.WideShapes Go.ChangeAt Go.RowKit
open Go.ChangeMaps (open_string shut_string)
set_option linter.unusedVariables false

theorem own : ownKnob Try.prog.godebug = none := by kernel_rfl
theorem laidOut : laidOutB Try.prog = true := by kernel_rfl

theorem be_succ (k n : Nat) : be (k + 1) n = nb n k :: be k n := by simp [be, List.range_succ]
theorem nb_lt (a b k : Nat) : (nb a k < nb b k) ↔ a / 256 ^ k % 256 < b / 256 ^ k % 256 := by rw [UInt8.lt_iff_toNat_lt, nb_nat, nb_nat]
theorem nb_eq (a b k : Nat) : (nb a k = nb b k) ↔ a / 256 ^ k % 256 = b / 256 ^ k % 256 := by rw [← UInt8.toNat_inj, nb_nat, nb_nat]
theorem mod_up (a k : Nat) : a % 256 ^ (k + 1) = a % 256 ^ k + 256 ^ k * (a / 256 ^ k % 256) := by rw [Nat.pow_succ, Nat.mod_mul]
theorem lex_less (p x y u v : Nat) (hx : x < p) (hy : y < p) : (x + p * u < y + p * v) ↔ (u < v ∨ (u = v ∧ x < y)) := by
  constructor
  · intro h
    rcases Nat.lt_trichotomy u v with h1 | h1 | h1
    · exact .inl h1
    · subst h1; exact .inr ⟨rfl, by omega⟩
    · have : p * (v + 1) ≤ p * u := Nat.mul_le_mul_left _ h1
      rw [Nat.mul_add, Nat.mul_one] at this
      omega
  · intro h
    rcases h with h1 | ⟨rfl, h2⟩
    · have : p * (u + 1) ≤ p * v := Nat.mul_le_mul_left _ h1
      rw [Nat.mul_add, Nat.mul_one] at this
      omega
    · omega
theorem lex_eq (p x y u v : Nat) (hx : x < p) (hy : y < p) : (x + p * u = y + p * v) ↔ (u = v ∧ x = y) := by
  constructor
  · intro h
    rcases Nat.lt_trichotomy u v with h1 | h1 | h1
    · have := (lex_less p x y u v hx hy).2 (.inl h1); omega
    · subst h1; exact ⟨rfl, by omega⟩
    · have := (lex_less p y x v u hy hx).2 (.inl h1); omega
  · rintro ⟨rfl, rfl⟩; rfl
theorem less_be (a b : Nat) : ∀ k, Op.bytesLess (be k a) (be k b) = decide (a % 256 ^ k < b % 256 ^ k)
  | 0 => by simp [be, Op.bytesLess, Nat.mod_one]
  | k + 1 => by
    have hp : 0 < 256 ^ k := Nat.pow_pos (by omega)
    rw [be_succ, be_succ, Op.bytesLess, less_be a b k, mod_up, mod_up, Bool.eq_iff_iff]
    simp only [Bool.or_eq_true, Bool.and_eq_true, decide_eq_true_eq, beq_iff_eq]
    rw [nb_lt, nb_eq, lex_less _ _ _ _ _ (Nat.mod_lt _ hp) (Nat.mod_lt _ hp)]
theorem eq_be (a b : Nat) : ∀ k, (be k a = be k b) ↔ a % 256 ^ k = b % 256 ^ k
  | 0 => by simp [be, Nat.mod_one]
  | k + 1 => by
    have hp : 0 < 256 ^ k := Nat.pow_pos (by omega)
    rw [be_succ, be_succ, List.cons.injEq, eq_be a b k, mod_up, mod_up, nb_eq, lex_eq _ _ _ _ _ (Nat.mod_lt _ hp) (Nat.mod_lt _ hp)]
theorem strB_toList (l : List UInt8) : (strB l).toList = l := by
  unfold strB
  simp
/-- the sizes' row. -/
def szs : Array Value := #[.int .i64 1, .int .i64 2, .int .i64 4, .int .i64 8]
def Ord (w : World) (wr : World) : Prop := Blk wr w.heap.size 3 szs ∧ Below w.heap.size w wr
theorem less_of (k a b : Nat) (ha : a ≤ top k) (hb : b ≤ top k) : Op.bytesLess (strB (be k a)).toList (strB (be k b)).toList = decide (a < b) := by
  have hp : 0 < 256 ^ k := Nat.pow_pos (by omega)
  unfold top at ha hb
  rw [strB_toList, strB_toList, less_be, Nat.mod_eq_of_lt (by omega), Nat.mod_eq_of_lt (by omega)]
theorem eq_of (k a b : Nat) (ha : a ≤ top k) (hb : b ≤ top k) : ((strB (be k a)).toList == (strB (be k b)).toList) = decide (a = b) := by
  have hp : 0 < 256 ^ k := Nat.pow_pos (by omega)
  unfold top at ha hb
  rw [strB_toList, strB_toList, Bool.eq_iff_iff, beq_iff_eq, decide_eq_true_eq, eq_be, Nat.mod_eq_of_lt (by omega), Nat.mod_eq_of_lt (by omega)]

set_option maxRecDepth 100000 in
set_option maxHeartbeats 4000000 in
theorem walk (a0 : Int) (a1 : Int) (w : World) (w0 : (Lit.int .u64 a0).wf = true) (w1 : (Lit.int .u64 a1).wf = true) :
    Calls Try.prog 6 #[.int .u64 a0, .int .u64 a1] w fun e w' => e = .returned (.bool true) ∧ Below w.heap.size w w' := by
  have d0 := wf_u64 w0
  have d1 := wf_u64 w1
  clear w0 w1
  obtain ⟨a, rfl⟩ := Int.eq_ofNat_of_zero_le d0.1
  obtain ⟨b, rfl⟩ := Int.eq_ofNat_of_zero_le d1.1
  have ha : a ≤ 18446744073709551615 := by omega
  have hb : b ≤ 18446744073709551615 := by omega
  clear d0 d1
  go_enter Try.func6, Try.ntmps6
  go_wp2_with fail
  go_loopw [6] (fun i wr => ∃ k : Nat, k ≤ 4 ∧ i = .int .i64 k ∧ Ord w wr) (fun i _ => 4 - (intOf i).toNat)
  case atStart => exact ⟨0, by omega, rfl, Blk.new w 3 szs, (Below.refl _ _).alloc (Nat.le_refl _) _⟩
  case round =>
    obtain ⟨i, hi, rfl, hB, hbw⟩ := hrel
    have hsz := hbw.size
    have hlt := hB.lt
    have hcase : i = 0 ∨ i = 1 ∨ i = 2 ∨ i = 3 ∨ i = 4 := by omega
    clear hi
    rcases hcase with rfl | rfl | rfl | rfl | rfl
    · have hc : wr.cell? ⟨w.heap.size, 0, none⟩ = some (.int .i64 1) := hB.cell 0
      by_cases fa : a ≤ top 1
      · have sa : ((a : Int) / 256 == 0) = true := by rw [beq_iff_eq]; have := fa; unfold top at this; omega
        go_wp2_with fail
        refine (put_ok 1 (.inl rfl) none 0 0 [] a _ (no_bytes _ _ _) rfl (by simp) fa ha).mono ?_
        rintro e w1 ⟨A1, n1, c1, rfl, hn1, hown1, hb1⟩
        have hn1' : n1 = 1 := by rw [hn1]; rfl
        have N1 := Lib.hid hn1
        clear hn1
        subst hn1'
        have hc1 := (hb1.cell (p := ⟨w.heap.size, 0, none⟩) hlt).trans hc
        by_cases fb : b ≤ top 1
        · go_wp2_with fail
          refine (put_ok 1 (.inl rfl) none 0 0 [] b _ (no_bytes _ _ _) rfl (by simp) fb hb).mono ?_
          rintro e w2 ⟨A2, n2, c2, rfl, hn2, hown2, hb2⟩
          have N2 := Lib.hid hn2
          clear hn2
          have hc2 := (hb2.cell (p := ⟨w.heap.size, 0, none⟩) (Nat.lt_of_lt_of_le hlt hb1.size)).trans hc1
          have q1 := str_n w2 _ A1 _ c1 _ (own_open (own_below hown1 hb2)).1 N1.out
          have q2 := str_n w2 _ A2 n2 c2 _ (own_open hown2).1 N2.out
          have hl := less_of 1 a b fa fb
          have he := eq_of 1 a b fa fb
          rw [show ([] ++ be 1 a : List UInt8) = be 1 a from rfl] at q1
          rw [show ([] ++ be 1 b : List UInt8) = be 1 b from rfl] at q2
          have hfin : Ord w w2 := ⟨(hB.below hb1 hlt).below hb2 (Nat.lt_of_lt_of_le hlt hb1.size), (hbw.trans (hb1.mono hsz)).trans (hb2.mono (Nat.le_trans hsz hb1.size))⟩
          clear hown1 hown2 hb1 hb2 hc hc1 N1 N2 hB hbw
          generalize strB (be 1 a) = X at q1 hl he
          generalize strB (be 1 b) = Y at q2 hl he
          rcases Nat.lt_trichotomy a b with h | h | h
          · rw [decide_eq_true h] at hl
            rw [decide_eq_false (by omega : ¬ a = b)] at he
            have h1 : (a : Int) < (b : Int) := by omega
            have h2 : ((a : Int) == (b : Int)) = false := by simp; omega
            go_wp2_with fail
            go_roundw
            case rel => exact ⟨1, by omega, rfl, hfin⟩
            case measure => simp [intOf]
          · subst h
            rw [decide_eq_false (by omega : ¬ a < a)] at hl
            rw [decide_eq_true rfl] at he
            go_wp2_with fail
            go_roundw
            case rel => exact ⟨1, by omega, rfl, hfin⟩
            case measure => simp [intOf]
          · rw [decide_eq_false (by omega : ¬ a < b)] at hl
            rw [decide_eq_false (by omega : ¬ a = b)] at he
            have h1 : ¬ (a : Int) < (b : Int) := by omega
            have h2 : ((a : Int) == (b : Int)) = false := by simp; omega
            go_wp2_with fail
            go_roundw
            case rel => exact ⟨1, by omega, rfl, hfin⟩
            case measure => simp [intOf]
        · go_wp2_with fail
          refine (put_many 1 (.inl rfl) _ b _ (by omega)).mono ?_
          rintro e w2 ⟨rfl, rfl⟩
          have hfin : Ord w w1 := ⟨hB.below hb1 hlt, hbw.trans (hb1.mono hsz)⟩
          go_wp2_with fail
          go_roundw
          case rel => exact ⟨1, by omega, rfl, hfin⟩
          case measure => simp [intOf]
      · have sa : ((a : Int) / 256 == 0) = false := by
          rw [beq_eq_false_iff_ne]; have := fa; unfold top at this; omega
        go_wp2_with fail
        refine (put_many 1 (.inl rfl) _ a _ (by omega)).mono ?_
        rintro e w1 ⟨rfl, rfl⟩
        by_cases fb : b ≤ top 1
        · go_wp2_with fail
          refine (put_ok 1 (.inl rfl) none 0 0 [] b _ (no_bytes _ _ _) rfl (by simp) fb hb).mono ?_
          rintro e w2 ⟨A2, n2, c2, rfl, hn2, hown2, hb2⟩
          clear hn2
          have hc2 := (hb2.cell (p := ⟨w.heap.size, 0, none⟩) hlt).trans hc
          have hfin : Ord w w2 := ⟨hB.below hb2 hlt, hbw.trans (hb2.mono hsz)⟩
          go_wp2_with fail
          go_roundw
          case rel => exact ⟨1, by omega, rfl, hfin⟩
          case measure => simp [intOf]
        · go_wp2_with fail
          refine (put_many 1 (.inl rfl) _ b _ (by omega)).mono ?_
          rintro e w2 ⟨rfl, rfl⟩
          have hfin : Ord w wr := ⟨hB, hbw⟩
          go_wp2_with fail
          go_roundw
          case rel => exact ⟨1, by omega, rfl, hfin⟩
          case measure => simp [intOf]
    · have hc : wr.cell? ⟨w.heap.size, 1, none⟩ = some (.int .i64 2) := hB.cell 1
      by_cases fa : a ≤ top 2
      · have sa : ((a : Int) / 65536 == 0) = true := by rw [beq_iff_eq]; have := fa; unfold top at this; omega
        go_wp2_with fail
        refine (put_ok 2 (.inr (.inl rfl)) none 0 0 [] a _ (no_bytes _ _ _) rfl (by simp) fa ha).mono ?_
        rintro e w1 ⟨A1, n1, c1, rfl, hn1, hown1, hb1⟩
        have hn1' : n1 = 2 := by rw [hn1]; rfl
        have N1 := Lib.hid hn1
        clear hn1
        subst hn1'
        have hc1 := (hb1.cell (p := ⟨w.heap.size, 1, none⟩) hlt).trans hc
        by_cases fb : b ≤ top 2
        · go_wp2_with fail
          refine (put_ok 2 (.inr (.inl rfl)) none 0 0 [] b _ (no_bytes _ _ _) rfl (by simp) fb hb).mono ?_
          rintro e w2 ⟨A2, n2, c2, rfl, hn2, hown2, hb2⟩
          have N2 := Lib.hid hn2
          clear hn2
          have hc2 := (hb2.cell (p := ⟨w.heap.size, 1, none⟩) (Nat.lt_of_lt_of_le hlt hb1.size)).trans hc1
          have q1 := str_n w2 _ A1 _ c1 _ (own_open (own_below hown1 hb2)).1 N1.out
          have q2 := str_n w2 _ A2 n2 c2 _ (own_open hown2).1 N2.out
          have hl := less_of 2 a b fa fb
          have he := eq_of 2 a b fa fb
          rw [show ([] ++ be 2 a : List UInt8) = be 2 a from rfl] at q1
          rw [show ([] ++ be 2 b : List UInt8) = be 2 b from rfl] at q2
          have hfin : Ord w w2 := ⟨(hB.below hb1 hlt).below hb2 (Nat.lt_of_lt_of_le hlt hb1.size), (hbw.trans (hb1.mono hsz)).trans (hb2.mono (Nat.le_trans hsz hb1.size))⟩
          clear hown1 hown2 hb1 hb2 hc hc1 N1 N2 hB hbw
          generalize strB (be 2 a) = X at q1 hl he
          generalize strB (be 2 b) = Y at q2 hl he
          rcases Nat.lt_trichotomy a b with h | h | h
          · rw [decide_eq_true h] at hl
            rw [decide_eq_false (by omega : ¬ a = b)] at he
            have h1 : (a : Int) < (b : Int) := by omega
            have h2 : ((a : Int) == (b : Int)) = false := by simp; omega
            go_wp2_with fail
            go_roundw
            case rel => exact ⟨2, by omega, rfl, hfin⟩
            case measure => simp [intOf]
          · subst h
            rw [decide_eq_false (by omega : ¬ a < a)] at hl
            rw [decide_eq_true rfl] at he
            go_wp2_with fail
            go_roundw
            case rel => exact ⟨2, by omega, rfl, hfin⟩
            case measure => simp [intOf]
          · rw [decide_eq_false (by omega : ¬ a < b)] at hl
            rw [decide_eq_false (by omega : ¬ a = b)] at he
            have h1 : ¬ (a : Int) < (b : Int) := by omega
            have h2 : ((a : Int) == (b : Int)) = false := by simp; omega
            go_wp2_with fail
            go_roundw
            case rel => exact ⟨2, by omega, rfl, hfin⟩
            case measure => simp [intOf]
        · go_wp2_with fail
          refine (put_many 2 (.inr (.inl rfl)) _ b _ (by omega)).mono ?_
          rintro e w2 ⟨rfl, rfl⟩
          have hfin : Ord w w1 := ⟨hB.below hb1 hlt, hbw.trans (hb1.mono hsz)⟩
          go_wp2_with fail
          go_roundw
          case rel => exact ⟨2, by omega, rfl, hfin⟩
          case measure => simp [intOf]
      · have sa : ((a : Int) / 65536 == 0) = false := by
          rw [beq_eq_false_iff_ne]; have := fa; unfold top at this; omega
        go_wp2_with fail
        refine (put_many 2 (.inr (.inl rfl)) _ a _ (by omega)).mono ?_
        rintro e w1 ⟨rfl, rfl⟩
        by_cases fb : b ≤ top 2
        · go_wp2_with fail
          refine (put_ok 2 (.inr (.inl rfl)) none 0 0 [] b _ (no_bytes _ _ _) rfl (by simp) fb hb).mono ?_
          rintro e w2 ⟨A2, n2, c2, rfl, hn2, hown2, hb2⟩
          clear hn2
          have hc2 := (hb2.cell (p := ⟨w.heap.size, 1, none⟩) hlt).trans hc
          have hfin : Ord w w2 := ⟨hB.below hb2 hlt, hbw.trans (hb2.mono hsz)⟩
          go_wp2_with fail
          go_roundw
          case rel => exact ⟨2, by omega, rfl, hfin⟩
          case measure => simp [intOf]
        · go_wp2_with fail
          refine (put_many 2 (.inr (.inl rfl)) _ b _ (by omega)).mono ?_
          rintro e w2 ⟨rfl, rfl⟩
          have hfin : Ord w wr := ⟨hB, hbw⟩
          go_wp2_with fail
          go_roundw
          case rel => exact ⟨2, by omega, rfl, hfin⟩
          case measure => simp [intOf]
    · have hc : wr.cell? ⟨w.heap.size, 2, none⟩ = some (.int .i64 4) := hB.cell 2
      by_cases fa : a ≤ top 4
      · have sa : ((a : Int) / 4294967296 == 0) = true := by rw [beq_iff_eq]; have := fa; unfold top at this; omega
        go_wp2_with fail
        refine (put_ok 4 (.inr (.inr (.inl rfl))) none 0 0 [] a _ (no_bytes _ _ _) rfl (by simp) fa ha).mono ?_
        rintro e w1 ⟨A1, n1, c1, rfl, hn1, hown1, hb1⟩
        have hn1' : n1 = 4 := by rw [hn1]; rfl
        have N1 := Lib.hid hn1
        clear hn1
        subst hn1'
        have hc1 := (hb1.cell (p := ⟨w.heap.size, 2, none⟩) hlt).trans hc
        by_cases fb : b ≤ top 4
        · go_wp2_with fail
          refine (put_ok 4 (.inr (.inr (.inl rfl))) none 0 0 [] b _ (no_bytes _ _ _) rfl (by simp) fb hb).mono ?_
          rintro e w2 ⟨A2, n2, c2, rfl, hn2, hown2, hb2⟩
          have N2 := Lib.hid hn2
          clear hn2
          have hc2 := (hb2.cell (p := ⟨w.heap.size, 2, none⟩) (Nat.lt_of_lt_of_le hlt hb1.size)).trans hc1
          have q1 := str_n w2 _ A1 _ c1 _ (own_open (own_below hown1 hb2)).1 N1.out
          have q2 := str_n w2 _ A2 n2 c2 _ (own_open hown2).1 N2.out
          have hl := less_of 4 a b fa fb
          have he := eq_of 4 a b fa fb
          rw [show ([] ++ be 4 a : List UInt8) = be 4 a from rfl] at q1
          rw [show ([] ++ be 4 b : List UInt8) = be 4 b from rfl] at q2
          have hfin : Ord w w2 := ⟨(hB.below hb1 hlt).below hb2 (Nat.lt_of_lt_of_le hlt hb1.size), (hbw.trans (hb1.mono hsz)).trans (hb2.mono (Nat.le_trans hsz hb1.size))⟩
          clear hown1 hown2 hb1 hb2 hc hc1 N1 N2 hB hbw
          generalize strB (be 4 a) = X at q1 hl he
          generalize strB (be 4 b) = Y at q2 hl he
          rcases Nat.lt_trichotomy a b with h | h | h
          · rw [decide_eq_true h] at hl
            rw [decide_eq_false (by omega : ¬ a = b)] at he
            have h1 : (a : Int) < (b : Int) := by omega
            have h2 : ((a : Int) == (b : Int)) = false := by simp; omega
            go_wp2_with fail
            go_roundw
            case rel => exact ⟨3, by omega, rfl, hfin⟩
            case measure => simp [intOf]
          · subst h
            rw [decide_eq_false (by omega : ¬ a < a)] at hl
            rw [decide_eq_true rfl] at he
            go_wp2_with fail
            go_roundw
            case rel => exact ⟨3, by omega, rfl, hfin⟩
            case measure => simp [intOf]
          · rw [decide_eq_false (by omega : ¬ a < b)] at hl
            rw [decide_eq_false (by omega : ¬ a = b)] at he
            have h1 : ¬ (a : Int) < (b : Int) := by omega
            have h2 : ((a : Int) == (b : Int)) = false := by simp; omega
            go_wp2_with fail
            go_roundw
            case rel => exact ⟨3, by omega, rfl, hfin⟩
            case measure => simp [intOf]
        · go_wp2_with fail
          refine (put_many 4 (.inr (.inr (.inl rfl))) _ b _ (by omega)).mono ?_
          rintro e w2 ⟨rfl, rfl⟩
          have hfin : Ord w w1 := ⟨hB.below hb1 hlt, hbw.trans (hb1.mono hsz)⟩
          go_wp2_with fail
          go_roundw
          case rel => exact ⟨3, by omega, rfl, hfin⟩
          case measure => simp [intOf]
      · have sa : ((a : Int) / 4294967296 == 0) = false := by
          rw [beq_eq_false_iff_ne]; have := fa; unfold top at this; omega
        go_wp2_with fail
        refine (put_many 4 (.inr (.inr (.inl rfl))) _ a _ (by omega)).mono ?_
        rintro e w1 ⟨rfl, rfl⟩
        by_cases fb : b ≤ top 4
        · go_wp2_with fail
          refine (put_ok 4 (.inr (.inr (.inl rfl))) none 0 0 [] b _ (no_bytes _ _ _) rfl (by simp) fb hb).mono ?_
          rintro e w2 ⟨A2, n2, c2, rfl, hn2, hown2, hb2⟩
          clear hn2
          have hc2 := (hb2.cell (p := ⟨w.heap.size, 2, none⟩) hlt).trans hc
          have hfin : Ord w w2 := ⟨hB.below hb2 hlt, hbw.trans (hb2.mono hsz)⟩
          go_wp2_with fail
          go_roundw
          case rel => exact ⟨3, by omega, rfl, hfin⟩
          case measure => simp [intOf]
        · go_wp2_with fail
          refine (put_many 4 (.inr (.inr (.inl rfl))) _ b _ (by omega)).mono ?_
          rintro e w2 ⟨rfl, rfl⟩
          have hfin : Ord w wr := ⟨hB, hbw⟩
          go_wp2_with fail
          go_roundw
          case rel => exact ⟨3, by omega, rfl, hfin⟩
          case measure => simp [intOf]
    · have hc : wr.cell? ⟨w.heap.size, 3, none⟩ = some (.int .i64 8) := hB.cell 3
      by_cases fa : a ≤ top 8
      · have sa : True := trivial
        go_wp2_with fail
        refine (put_ok 8 (.inr (.inr (.inr rfl))) none 0 0 [] a _ (no_bytes _ _ _) rfl (by simp) fa ha).mono ?_
        rintro e w1 ⟨A1, n1, c1, rfl, hn1, hown1, hb1⟩
        have hn1' : n1 = 8 := by rw [hn1]; rfl
        have N1 := Lib.hid hn1
        clear hn1
        subst hn1'
        have hc1 := (hb1.cell (p := ⟨w.heap.size, 3, none⟩) hlt).trans hc
        by_cases fb : b ≤ top 8
        · go_wp2_with fail
          refine (put_ok 8 (.inr (.inr (.inr rfl))) none 0 0 [] b _ (no_bytes _ _ _) rfl (by simp) fb hb).mono ?_
          rintro e w2 ⟨A2, n2, c2, rfl, hn2, hown2, hb2⟩
          have N2 := Lib.hid hn2
          clear hn2
          have hc2 := (hb2.cell (p := ⟨w.heap.size, 3, none⟩) (Nat.lt_of_lt_of_le hlt hb1.size)).trans hc1
          have q1 := str_n w2 _ A1 _ c1 _ (own_open (own_below hown1 hb2)).1 N1.out
          have q2 := str_n w2 _ A2 n2 c2 _ (own_open hown2).1 N2.out
          have hl := less_of 8 a b fa fb
          have he := eq_of 8 a b fa fb
          rw [show ([] ++ be 8 a : List UInt8) = be 8 a from rfl] at q1
          rw [show ([] ++ be 8 b : List UInt8) = be 8 b from rfl] at q2
          have hfin : Ord w w2 := ⟨(hB.below hb1 hlt).below hb2 (Nat.lt_of_lt_of_le hlt hb1.size), (hbw.trans (hb1.mono hsz)).trans (hb2.mono (Nat.le_trans hsz hb1.size))⟩
          clear hown1 hown2 hb1 hb2 hc hc1 N1 N2 hB hbw
          generalize strB (be 8 a) = X at q1 hl he
          generalize strB (be 8 b) = Y at q2 hl he
          rcases Nat.lt_trichotomy a b with h | h | h
          · rw [decide_eq_true h] at hl
            rw [decide_eq_false (by omega : ¬ a = b)] at he
            have h1 : (a : Int) < (b : Int) := by omega
            have h2 : ((a : Int) == (b : Int)) = false := by simp; omega
            go_wp2_with fail
            go_roundw
            case rel => exact ⟨4, by omega, rfl, hfin⟩
            case measure => simp [intOf]
          · subst h
            rw [decide_eq_false (by omega : ¬ a < a)] at hl
            rw [decide_eq_true rfl] at he
            go_wp2_with fail
            go_roundw
            case rel => exact ⟨4, by omega, rfl, hfin⟩
            case measure => simp [intOf]
          · rw [decide_eq_false (by omega : ¬ a < b)] at hl
            rw [decide_eq_false (by omega : ¬ a = b)] at he
            have h1 : ¬ (a : Int) < (b : Int) := by omega
            have h2 : ((a : Int) == (b : Int)) = false := by simp; omega
            go_wp2_with fail
            go_roundw
            case rel => exact ⟨4, by omega, rfl, hfin⟩
            case measure => simp [intOf]
        · go_wp2_with fail
          refine (put_many 8 (.inr (.inr (.inr rfl))) _ b _ (by omega)).mono ?_
          rintro e w2 ⟨rfl, rfl⟩
          have hfin : Ord w w1 := ⟨hB.below hb1 hlt, hbw.trans (hb1.mono hsz)⟩
          go_wp2_with fail
          go_roundw
          case rel => exact ⟨4, by omega, rfl, hfin⟩
          case measure => simp [intOf]
      · exfalso; apply fa; unfold top; omega
    · go_wp2_with fail
      refine (oworks_any _).mono ?_
      rintro e w9 ⟨rfl, hb9⟩
      go_wp2_with fail
      go_ret
      exact ⟨rfl, hbw.trans (hb9.mono hsz)⟩

set_option maxRecDepth 100000 in
theorem lifted (os : Os) (started : os.Started) (H : Type) (enc : TypeId × Value → H) :
    ReturnsInHanded {} Try.checked os 6 .any (Rows.octetOrderSpec.pre6 enc Try.prog Try.f6 Rows.octetOrderRow.domain false) (Rows.octetOrderSpec.post enc Try.prog Try.f6 false true false false) := by
  refine returnsInHanded_of_change (C := Try.checked) own started (by kernel_rfl) Try.func6
    (ChangeSpec.witness6 (enc := enc) (C := Try.checked) false ⟨#[], #[.int .u64 0, .int .u64 0], []⟩ 8 (by kernel_rfl) (by kernel_rfl) (by kernel_rfl) (by kernel_rfl)) ?_
  intro W base args ds gs before hval0 hW hcnd _
  have hval : ∀ (j : Nat) t v, Try.f6.params[j]? = some t → args[j]? = some v → Value.okWide Try.prog W .any base t v := hval0
  have hW' := hW
  obtain ⟨p, q, hA0, hV, rfl, hfz, hnd⟩ := hW
  have hA : DataW.TrodAll enc Try.prog W 0 (fun _ => true) true Try.f6.params.toList args.toList ds p := hA0
  rw [Try.params6] at hA hval
  obtain ⟨v0, vs0, d0, ds0, p0, q0, hargs, rfl, rfl, h0, r0⟩ := trodAll_cons hA
  obtain ⟨v1, vs1, d1, ds1, p1, q1, rfl, rfl, rfl, h1, r1⟩ := trodAll_cons r0
  obtain ⟨rfl, rfl, rfl⟩ := trodAll_nil r1
  obtain rfl : args = #[v0, v1] := by cases args; simp_all
  obtain ⟨rfl, rfl⟩ := trodVars_none hV
  obtain ⟨a0, rfl, rfl, rfl, w0⟩ := open_int Try.underlying23 (hval 0 23 v0 rfl rfl) h0
  obtain ⟨a1, rfl, rfl, rfl, w1⟩ := open_int Try.underlying23 (hval 1 23 v1 rfl rfl) h1
  clear hA0 hval0
  refine (walk a0 a1 W w0 w1).mono fun e W' ⟨he, bel⟩ => ?_
  subst he
  exact ⟨_, rfl, _, _, _, [], _, [], hW', trodAll_mk1 (shut_bool Try.underlying4 _), (trodAll_cons_mk (shut_int Try.underlying23 w0) (trodAll_cons_mk (shut_int Try.underlying23 w1) trodAll_mk0)), rfl, bel.frame _, fun h => by cases h⟩

theorem over : Rows.octetOrderRow.holds Try.pinned (OpenSpec.ofChange Rows.octetOrderSpec) :=
  OpenClaim.holds_of_wide 6 Try.f6 rfl rfl rfl rfl rfl rfl rfl ⟨rfl, rfl, rfl, rfl, rfl⟩ rfl rfl rfl rfl rfl (by kernel_rfl) Try.func6 (by kernel_rfl)
    (of_decide_eq_true (by kernel_rfl)) (by unfold Func.isWrapper; first | (rw [if_pos (by decide +kernel)]; kernel_rfl) | (rw [if_neg (by decide +kernel)]; exact ⟨rfl, rfl⟩))
    (fun os started H enc _ => lifted os started H enc)

theorem proved : Rows.OctetOrderSaid := over
#print axioms proved
end Go.Proofs.Ytbfdliogpheekaa.octetOrder
