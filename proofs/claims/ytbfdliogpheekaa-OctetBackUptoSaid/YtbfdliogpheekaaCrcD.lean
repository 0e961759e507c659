import Derived.Test.YtbfdliogpheekaaCrcC
namespace Go.Proofs.Ytbfdliogpheekaa
open Go.RowKit
/-- the table of d times eight steps. -/
def fs (d : Nat) : Nat → BitVec 32 := fun i => Cm.steps (8 * d) (1#32 <<< i)
theorem fs_one : fz = fs 1 := rfl
theorem sq_fs (d : Nat) : sq (fs d) = fs (2 * d) := by
  funext i
  unfold sq fs
  rw [Cm.ofCols_steps, ← Cm.steps_add]; congr 1; omega
theorem of_fs (d : Nat) (x : BitVec 32) : Cm.ofCols (fs d) x 32 = Cm.steps (8 * d) x := Cm.ofCols_steps _ _
theorem odd_steps (m d : Nat) (x : BitVec 32) (h : m % 2 = 1) : Cm.steps (8 * (m / 2) * (2 * d)) (Cm.steps (8 * d) x) = Cm.steps (8 * m * d) x := by
  rw [← Cm.steps_add]; congr 1
  have e : m = 2 * (m / 2) + 1 := by omega
  generalize m / 2 = q at e ⊢
  subst e
  rw [Nat.mul_add, Nat.add_mul, Nat.mul_one, Nat.add_comm, ← Nat.mul_assoc, ← Nat.mul_assoc, Nat.mul_right_comm 8 q 2]
theorem even_steps (m d : Nat) (x : BitVec 32) (h : m % 2 = 0) : Cm.steps (8 * (m / 2) * (2 * d)) x = Cm.steps (8 * m * d) x := by
  congr 1
  have e : m = 2 * (m / 2) := by omega
  generalize m / 2 = q at e ⊢
  subst e
  rw [← Nat.mul_assoc, ← Nat.mul_assoc, Nat.mul_right_comm 8 q 2]
theorem ofInt_i64' (a : Nat) (ha : a < 9223372036854775808) : (BitVec.ofInt 64 (a : Int)).toNat = a := by
  rw [BitVec.ofInt_natCast, BitVec.toNat_ofNat]; exact Nat.mod_eq_of_lt (by omega)
theorem i64_odd (a : Nat) (ha : a ≤ 9223372036854775807) : (bits .and .i64 (a : Int) 1 == 1) = decide (a % 2 = 1) := by
  have hx : a &&& 1 < 2 ^ 63 := Nat.lt_of_le_of_lt Nat.and_le_right (by decide)
  have h : bits .and .i64 (a : Int) 1 = ((a &&& 1 : Nat) : Int) := by
    show IntKind.i64.wrap ((BitVec.ofInt 64 (a : Int) &&& BitVec.ofInt 64 ((1 : Nat) : Int)).toNat : Int) = _
    rw [BitVec.toNat_and, ofInt_i64' a (by omega), ofInt_i64' 1 (by omega), IntKind.wrap_i64]
    omega
  rw [h, Nat.and_one_is_mod]
  rcases Nat.mod_two_eq_zero_or_one a with e | e <;> rw [e] <;> rfl
/-- where the turning stands: m times d to go on, the table in block g. -/
def Turns (w : World) (t : BitVec 32) (z : Int) (x : BitVec 32) (g d : Nat) (wr : World) : Prop :=
  Cm.steps (8 * z.toNat * d) x = t ∧ Blk wr g 72 (cols (fs d)) ∧ w.heap.size ≤ g ∧ Below w.heap.size w wr
theorem Turns.next {w w3 : World} {t x : BitVec 32} {m g d : Nat} (h : Cm.steps (8 * (m / 2) * (2 * d)) x = t) (hb : Below w.heap.size w (w3.setRow g (cols (fs (2 * d))))) (hs : w.heap.size ≤ (w3.setRow g (cols (fs (2 * d)))).heap.size) :
    Turns w t ((m : Int) / 2) x w3.heap.size (2 * d) ((w3.setRow g (cols (fs (2 * d)))).alloc (.cells (cols (fs (2 * d))) 72)) := by
  have h11 := Blk.new (w3.setRow g (cols (fs (2 * d)))) 72 (cols (fs (2 * d)))
  rw [size_setRow] at h11
  refine ⟨?_, h11, by simpa using hs, hb.alloc hs _⟩
  rw [show ((m : Int) / 2).toNat = m / 2 by omega]; exact h
set_option maxHeartbeats 400000 in
theorem turn_any (s : BitVec 32) (n : Int) (w : World) (hlo : -9223372036854775808 ≤ n) (hhi : n ≤ 9223372036854775807) :
    Calls Try.prog 39 #[.int .u32 (U s), .int .i64 n] w fun e w' => e = .returned (.int .u32 (U (~~~ Cm.steps (8 * n.toNat) (~~~ s)))) ∧ Below w.heap.size w w' := by
  go_enter Try.func39, Try.ntmps39
  go_wp2_with fail
  refine (byNought_any _).mono ?_
  rintro e w1 ⟨rfl, hb1⟩
  rw [fs_one]
  have hz1 := hb1.size
  go_wp2_with (refine wpList_store_row rfl 72 _ _ rfl _ (cols (fs 1)) rfl rfl 72 _ (heap_alloc_new w1 _) (cols_info _) (by rw [cols_size]; rfl) (cols_one _) ?_; rw [World.setRow_alloc_new])
  go_frame
  go_loopw [1, 5, 6] (fun z x p wr => ∃ (z' : Int) (x' : BitVec 32) (g d : Nat), z = .int .i64 z' ∧ -9223372036854775808 ≤ z' ∧ z' ≤ 9223372036854775807 ∧ x = .int .u32 (U x') ∧ p = .pointer (some ⟨g, 0, none⟩) ∧ Turns w (Cm.steps (8 * n.toNat) (~~~ s)) z' x' g d wr) (fun z _ _ _ => (intOf z).toNat)
  case atStart =>
    exact ⟨n, _, _, 1, rfl, hlo, hhi, rfl, rfl, by rw [Nat.mul_one], Blk.new _ _ _, hz1, hb1.alloc hz1 _⟩
  case round =>
    obtain ⟨z, x, g, d, rfl, hz0, hz2, rfl, rfl, hT⟩ := hrel
    by_cases hpos : 0 < z
    · obtain ⟨m, rfl⟩ := Int.eq_ofNat_of_zero_le (show 0 ≤ z by omega)
      obtain ⟨hT1, hT2, hT3, hT4⟩ := hT
      have HT := Lib.hid hT1
      clear hT1
      have hsz := hT4.size
      by_cases hodd : m % 2 = 1
      · have ho := i64_odd m (by omega)
        rw [decide_eq_true hodd] at ho
        go_wp2_with (first
          | (refine wpList_load_row rfl 72 _ rfl _ rfl 72 (cols (fs d)) (0, 0) _ hT2 Try.underlying72 rfl (cols_info _) ?_)
          | (go_at_call 49; refine (of_any _ _ _).mono ?_; rintro e w' ⟨rfl, rfl⟩; have hT5 := hT2.alloc (.cells (cols (fs d)) 72); have hT6 := hT4.alloc hsz (.cells (cols (fs d)) 72))
          | (refine wpList_load_row rfl 72 _ rfl _ rfl 72 (cols (fs d)) (0, 0) _ hT5 Try.underlying72 rfl (cols_info _) ?_)
          | (go_at_call 50; refine (squared_any _ _).mono ?_; rintro e w3 ⟨rfl, hb3⟩; rw [sq_fs]; have hlt3 := hT5.lt; have hT7 := hT5.below hb3 hlt3; have hT8 := hT6.trans (hb3.mono hT6.size); have hT9 := hT7.row (cols (fs (2 * d))); have hT10 := below_setRow hT8 hT3 (cols (fs (2 * d))); have hsz4 := hT10.size)
          | (refine wpList_store_row rfl 72 _ _ rfl _ (cols (fs (2 * d))) rfl rfl 72 _ hT7 (cols_info _) (by rw [cols_size, cols_size]) (cols_one _) ?_)
          | (refine wpList_load_row rfl 72 _ rfl _ rfl 72 (cols (fs (2 * d))) (0, 0) _ hT9 Try.underlying72 rfl (cols_info _) ?_)
          | (refine wpList_store_row rfl 72 _ _ rfl _ (cols (fs (2 * d))) rfl rfl 72 _ (heap_new (w3.setRow g (cols (fs (2 * d)))) w3.heap.size (by simp) _) (cols_info _) (by rw [cols_size]; rfl) (cols_one _) ?_; rw [setRow_new (w3.setRow g (cols (fs (2 * d)))) w3.heap.size (by simp)]; have hT11 := Blk.new (w3.setRow g (cols (fs (2 * d)))) 72 (cols (fs (2 * d)))))
        go_roundw
        case rel => exact ⟨_, _, _, _, rfl, by omega, by omega, rfl, rfl, Turns.next (by rw [of_fs, odd_steps m d x hodd]; exact HT.out) hT10 hsz4⟩
        case measure => simp [intOf]; omega
      · have ho := i64_odd m (by omega)
        rw [decide_eq_false hodd] at ho
        go_wp2_with (first
          | (refine wpList_load_row rfl 72 _ rfl _ rfl 72 (cols (fs d)) (0, 0) _ hT2 Try.underlying72 rfl (cols_info _) ?_)
          | (go_at_call 50; refine (squared_any _ _).mono ?_; rintro e w3 ⟨rfl, hb3⟩; rw [sq_fs]; have hlt3 := hT2.lt; have hT7 := hT2.below hb3 hlt3; have hT8 := hT4.trans (hb3.mono hT4.size); have hT9 := hT7.row (cols (fs (2 * d))); have hT10 := below_setRow hT8 hT3 (cols (fs (2 * d))); have hsz4 := hT10.size)
          | (refine wpList_store_row rfl 72 _ _ rfl _ (cols (fs (2 * d))) rfl rfl 72 _ hT7 (cols_info _) (by rw [cols_size, cols_size]) (cols_one _) ?_)
          | (refine wpList_load_row rfl 72 _ rfl _ rfl 72 (cols (fs (2 * d))) (0, 0) _ hT9 Try.underlying72 rfl (cols_info _) ?_)
          | (refine wpList_store_row rfl 72 _ _ rfl _ (cols (fs (2 * d))) rfl rfl 72 _ (heap_new (w3.setRow g (cols (fs (2 * d)))) w3.heap.size (by simp) _) (cols_info _) (by rw [cols_size]; rfl) (cols_one _) ?_; rw [setRow_new (w3.setRow g (cols (fs (2 * d)))) w3.heap.size (by simp)]))
        go_roundw
        case rel => exact ⟨_, _, _, _, rfl, by omega, by omega, rfl, rfl, Turns.next (by rw [even_steps m d x (by omega)]; exact HT.out) hT10 hsz4⟩
        case measure => simp [intOf]; omega
    · obtain ⟨hT1, _, _, hT4⟩ := hT
      have HT := Lib.hid hT1
      clear hT1
      go_wp2_with fail
      go_ret
      refine ⟨ret_U ?_, hT4⟩
      have e := HT.out
      rw [show z.toNat = 0 by omega] at e
      simp only [Nat.mul_zero, Nat.zero_mul, Cm.steps] at e
      rw [e]
set_option maxHeartbeats 400000 in
theorem join_any (a b : BitVec 32) (n : Int) (w : World) (hlo : -9223372036854775808 ≤ n) (hhi : n ≤ 9223372036854775807) :
    Calls Try.prog 40 #[.int .u32 (U a), .int .u32 (U b), .int .i64 n] w fun e w' => e = .returned (.int .u32 (U (~~~ Cm.steps (8 * n.toNat) (~~~ a) ^^^ ~~~ Cm.steps (8 * n.toNat) (~~~ 0#32) ^^^ b))) ∧ Below w.heap.size w w' := by
  go_enter Try.func40, Try.ntmps40
  go_wp2_with fail
  refine (turn_any a n _ hlo hhi).mono ?_
  rintro e w1 ⟨rfl, hb1⟩
  have hs1 := hb1.size
  go_wp2_with fail
  refine (turn_any 0#32 n _ hlo hhi).mono ?_
  rintro e w2 ⟨rfl, hb2⟩
  go_wp2_with fail
  go_ret
  exact ⟨rfl, hb1.trans (hb2.mono hs1)⟩
set_option maxHeartbeats 400000 in
theorem sum_any (A : Option Addr) (c : Nat) (bs : List UInt8) (w : World) (hb : Bytes w w.heap.size A bs) (hl : bs.length ≤ maxLen) :
    Calls Try.prog 35 #[.slice A bs.length c] w fun e w' => e = .returned (.int .u32 (U (~~~ Cm.more (~~~ 0#32) (wide bs)))) ∧ w = w' := by
  go_enter Try.func35, Try.ntmps35
  go_wp2_with fail
  refine (more_any 0#32 A c bs _ hb hl).mono ?_
  rintro e w1 ⟨rfl, rfl⟩
  go_wp2_with fail
  go_ret
  exact ⟨rfl, rfl⟩
end Go.Proofs.Ytbfdliogpheekaa
