/- Plain mathematics of the sum's steps, over 32 bits: nothing of the program is named here. -/
namespace Go.Proofs.Ytnnhkanjneecjaa
namespace Cm

def poly : BitVec 32 := 0xedb88320#32
def step (s : BitVec 32) : BitVec 32 := if s.getLsbD 0 then (s >>> 1) ^^^ poly else s >>> 1
def steps : Nat → BitVec 32 → BitVec 32
  | 0, s => s
  | n + 1, s => steps n (step s)

theorem step_xor (a b : BitVec 32) : step (a ^^^ b) = step a ^^^ step b := by
  unfold step
  rw [BitVec.getLsbD_xor, BitVec.ushiftRight_xor_distrib]
  cases a.getLsbD 0 <;> cases b.getLsbD 0 <;> simp
  · ac_rfl
  · ac_rfl
  · have h : poly ^^^ poly = 0#32 := by decide
    calc (a >>> 1 ^^^ b >>> 1) = (a >>> 1 ^^^ b >>> 1) ^^^ (poly ^^^ poly) := by rw [h]; simp
      _ = _ := by ac_rfl
theorem step_zero : step 0#32 = 0#32 := by decide
theorem steps_xor (n : Nat) : ∀ a b : BitVec 32, steps n (a ^^^ b) = steps n a ^^^ steps n b := by
  induction n with
  | zero => intro a b; rfl
  | succ n ih => intro a b; simp only [steps]; rw [step_xor, ih]
theorem steps_zero (n : Nat) : steps n 0#32 = 0#32 := by
  induction n with
  | zero => rfl
  | succ n ih => simp only [steps]; rw [step_zero, ih]
theorem steps_add (m n : Nat) : ∀ s, steps (m + n) s = steps n (steps m s) := by
  induction m with
  | zero => intro s; simp [steps]
  | succ m ih => intro s; rw [show m + 1 + n = (m + n) + 1 by omega]; simp only [steps]; rw [ih]
theorem step_ne_zero (s : BitVec 32) (h : step s = 0#32) : s = 0#32 := by
  unfold step at h
  have ht : s.getLsbD 0 = false := by
    cases e : s.getLsbD 0 with
    | false => rfl
    | true =>
      rw [e] at h
      simp only [if_true] at h
      have := congrArg (fun x => BitVec.getLsbD x 31) h
      simp [poly] at this
  rw [ht] at h
  simp at h
  apply BitVec.eq_of_getLsbD_eq
  intro i hi
  rcases i with _ | i
  · rw [ht]; simp
  · have := congrArg (fun x => BitVec.getLsbD x i) h
    simp [BitVec.getLsbD_ushiftRight] at this
    simp
    rw [Nat.add_comm]; exact this
theorem steps_ne_zero (n : Nat) : ∀ s : BitVec 32, steps n s = 0#32 → s = 0#32 := by
  induction n with
  | zero => intro s h; exact h
  | succ n ih => intro s h; exact step_ne_zero s (ih _ h)
theorem xor_eq_zero {a b : BitVec 32} (h : a ^^^ b = 0#32) : a = b := by
  have : (a ^^^ b) ^^^ b = 0#32 ^^^ b := by rw [h]
  rw [BitVec.xor_assoc] at this
  simpa using this
theorem steps_inj (n : Nat) (a b : BitVec 32) (h : steps n a = steps n b) : a = b := by
  apply xor_eq_zero
  apply steps_ne_zero n
  rw [steps_xor, h]; simp
theorem steps_low (n : Nat) : ∀ s : BitVec 32, (∀ i, i < n → s.getLsbD i = false) → steps n s = s >>> n := by
  induction n with
  | zero => intro s _; simp [steps]
  | succ n ih =>
    intro s h
    have h0 : step s = s >>> 1 := by unfold step; rw [h 0 (by omega)]; simp
    simp only [steps]
    rw [h0, ih (s >>> 1) (fun i hi => by rw [BitVec.getLsbD_ushiftRight]; exact h _ (by omega))]
    rw [← BitVec.shiftRight_add]; congr 1; omega
/-- eight steps of a number of which the low byte alone was mixed in. -/
theorem steps_byte (t X b : BitVec 32) (hb : b = X &&& 255#32) : steps 8 (t ^^^ X) = steps 8 (t ^^^ b) ^^^ (X >>> 8) := by
  have e : X = b ^^^ (X &&& ~~~255#32) := by
    subst hb
    apply BitVec.eq_of_getLsbD_eq
    intro i hi
    rw [BitVec.getLsbD_xor, BitVec.getLsbD_and, BitVec.getLsbD_and, BitVec.getLsbD_not]
    cases X.getLsbD i <;> cases (255#32).getLsbD i <;> simp [hi]
  have l : steps 8 (X &&& ~~~255#32) = (X &&& ~~~255#32) >>> 8 := by
    apply steps_low
    intro i hi
    have : i = 0 ∨ i = 1 ∨ i = 2 ∨ i = 3 ∨ i = 4 ∨ i = 5 ∨ i = 6 ∨ i = 7 := by omega
    rcases this with rfl | rfl | rfl | rfl | rfl | rfl | rfl | rfl <;> simp
  have r : (X &&& ~~~255#32) >>> 8 = X >>> 8 := by
    apply BitVec.eq_of_getLsbD_eq
    intro i hi
    rw [BitVec.getLsbD_ushiftRight, BitVec.getLsbD_ushiftRight, BitVec.getLsbD_and, BitVec.getLsbD_not]
    have h5 : (255#32).getLsbD (8 + i) = false := by
      show Nat.testBit (255 % 2 ^ 32) (8 + i) = false
      rw [show (255 % 2 ^ 32 : Nat) = 2 ^ 8 - 1 from by decide, Nat.testBit_two_pow_sub_one]; simp
    rw [h5]
    cases e : X.getLsbD (8 + i) with
    | false => rfl
    | true => simp [BitVec.lt_of_getLsbD e]
  calc steps 8 (t ^^^ X) = steps 8 ((t ^^^ b) ^^^ (X &&& ~~~255#32)) := by rw [BitVec.xor_assoc, ← e]
    _ = _ := by rw [steps_xor, l, r]
/-- what a sum's state becomes by bytes, each as 32 bits. -/
def more : BitVec 32 → List (BitVec 32) → BitVec 32
  | s, [] => s
  | s, c :: l => more (steps 8 (s ^^^ c)) l
theorem more_append (l m : List (BitVec 32)) : ∀ s, more s (l ++ m) = more (more s l) m := by
  induction l with
  | nil => intro s; rfl
  | cons c l ih => intro s; simp only [List.cons_append, more]; exact ih _
theorem more_four (t X : BitVec 32) : more t [X &&& 255#32, X >>> 8 &&& 255#32, X >>> 16 &&& 255#32, X >>> 24 &&& 255#32] = steps 32 (t ^^^ X) := by
  simp only [more]
  rw [show steps 32 (t ^^^ X) = steps 24 (steps 8 (t ^^^ X)) from steps_add 8 24 _]
  rw [steps_byte t X _ rfl]
  rw [show ∀ y, steps 24 y = steps 16 (steps 8 y) from steps_add 8 16]
  rw [steps_byte _ (X >>> 8) _ rfl]
  rw [show ∀ y, steps 16 y = steps 8 (steps 8 y) from steps_add 8 8]
  rw [show X >>> 8 >>> 8 = X >>> 16 from by rw [← BitVec.shiftRight_add]]
  rw [steps_byte _ (X >>> 16) _ rfl]
  rw [show X >>> 16 >>> 8 = X >>> 24 from by rw [← BitVec.shiftRight_add]]
  rw [steps_byte _ (X >>> 24) _ rfl]
  rw [show X >>> 24 >>> 8 = 0#32 from by
    rw [← BitVec.shiftRight_add]
    apply BitVec.eq_of_getLsbD_eq; intro i hi; simp]
  simp
theorem more_noughts (n : Nat) : ∀ s, more s (List.replicate n 0#32) = steps (8 * n) s := by
  induction n with
  | zero => intro s; rfl
  | succ n ih => intro s; rw [List.replicate_succ]; simp only [more]; rw [ih, show 8 * (n + 1) = 8 + 8 * n by omega, steps_add]; simp
/-- what a state turns, another one turns as well: by bytes of one length. -/
theorem more_xor : ∀ (l m : List (BitVec 32)) (s t : BitVec 32), l.length = m.length → more s l ^^^ more t m = more (s ^^^ t) (List.zipWith (· ^^^ ·) l m)
  | [], [], s, t, _ => rfl
  | c :: l, d :: m, s, t, h => by
    simp only [more, List.zipWith_cons_cons]
    rw [more_xor l m _ _ (by simpa using h), ← steps_xor]
    congr 2; ac_rfl
theorem more_state (l : List (BitVec 32)) (s t : BitVec 32) : more (s ^^^ t) l = more s l ^^^ steps (8 * l.length) t := by
  induction l generalizing s t with
  | nil => rfl
  | cons c l ih =>
    simp only [more, List.length_cons]
    rw [show s ^^^ t ^^^ c = (s ^^^ c) ^^^ t by ac_rfl, steps_xor, ih, show 8 * (l.length + 1) = 8 + 8 * l.length by omega, steps_add]

/-- the low k bits. -/
def low (s : BitVec 32) (k : Nat) : BitVec 32 := BitVec.ofNat 32 (s.toNat % 2 ^ k)
theorem low_zero (s : BitVec 32) : low s 0 = 0#32 := by simp [low, Nat.mod_one]
theorem low_all (s : BitVec 32) : low s 32 = s := by
  unfold low; rw [Nat.mod_eq_of_lt s.isLt]; simp
theorem low_bit (s : BitVec 32) (k i : Nat) : (low s k).getLsbD i = (decide (i < k) && s.getLsbD i) := by
  by_cases hi : i < 32
  · unfold low
    show Nat.testBit (s.toNat % 2 ^ k % 2 ^ 32) i = (decide (i < k) && Nat.testBit s.toNat i)
    rw [Nat.testBit_mod_two_pow, Nat.testBit_mod_two_pow]; simp [hi]
  · rw [BitVec.getLsbD_of_ge _ i (by omega), BitVec.getLsbD_of_ge _ i (by omega)]; simp
theorem low_succ (s : BitVec 32) (k : Nat) (hk : k < 32) : low s (k + 1) = low s k ^^^ (if s.getLsbD k then 1#32 <<< k else 0#32) := by
  apply BitVec.eq_of_getLsbD_eq
  intro i hi
  rw [BitVec.getLsbD_xor, low_bit, low_bit]
  by_cases e : i = k
  · subst e
    cases h : s.getLsbD i <;> simp [hi]
  · have h1 : (if s.getLsbD k = true then 1#32 <<< k else 0#32).getLsbD i = false := by
      split
      · rw [BitVec.getLsbD_shiftLeft]
        by_cases h2 : i < k
        · simp [h2]
        · rw [show i - k = (i - k - 1) + 1 by omega]
          have : (1#32).getLsbD (i - k - 1 + 1) = false := by
            show Nat.testBit (1 % 2 ^ 32) (i - k - 1 + 1) = false
            rw [show (1 % 2 ^ 32 : Nat) = 1 from rfl, Nat.testBit_succ]; simp
          rw [this]; simp
      · simp
    rw [h1]
    have : decide (i < k + 1) = decide (i < k) := by simp; omega
    rw [this]; simp
/-- the columns' exclusive or, up to the bit k. -/
def ofCols (m : Nat → BitVec 32) (s : BitVec 32) : Nat → BitVec 32
  | 0 => 0#32
  | k + 1 => ofCols m s k ^^^ (if s.getLsbD k then m k else 0#32)
theorem ofCols_eq (f : BitVec 32 → BitVec 32) (h0 : f 0#32 = 0#32) (hx : ∀ a b, f (a ^^^ b) = f a ^^^ f b) (s : BitVec 32) :
    ∀ k, k ≤ 32 → ofCols (fun i => f (1#32 <<< i)) s k = f (low s k)
  | 0, _ => by rw [low_zero, h0]; rfl
  | k + 1, hk => by
    simp only [ofCols]
    rw [ofCols_eq f h0 hx s k (by omega), low_succ s k (by omega), hx]
    congr 1
    split
    · rfl
    · exact h0.symm
theorem ofCols_steps (n : Nat) (s : BitVec 32) : ofCols (fun i => steps n (1#32 <<< i)) s 32 = steps n s := by
  rw [ofCols_eq (steps n) (steps_zero n) (steps_xor n) s 32 (by omega), low_all]
theorem bit_split (y : BitVec 32) : (y &&& 1#32) ^^^ ((y >>> 1) <<< 1) = y := by
  apply BitVec.eq_of_getLsbD_eq
  intro i hi
  rw [BitVec.getLsbD_xor, BitVec.getLsbD_and, BitVec.getLsbD_shiftLeft, BitVec.getLsbD_ushiftRight]
  rcases i with _ | i
  · simp
  · have : (1#32).getLsbD (i + 1) = false := by
      show Nat.testBit (1 % 2 ^ 32) (i + 1) = false
      rw [show (1 % 2 ^ 32 : Nat) = 1 from rfl, Nat.testBit_succ]; simp
    rw [this, show i + 1 - 1 = i by omega, Nat.add_comm 1 i]; simp [hi]
theorem step_up (z : BitVec 32) (h : z.getLsbD 31 = false) : step (z <<< 1) = z := by
  have h0 : (z <<< 1).getLsbD 0 = false := by rw [BitVec.getLsbD_shiftLeft]; simp
  unfold step
  rw [h0]
  apply BitVec.eq_of_getLsbD_eq
  intro i hi
  rw [if_neg (by simp), BitVec.getLsbD_ushiftRight, BitVec.getLsbD_shiftLeft]
  by_cases e : i = 31
  · subst e; rw [h]; simp
  · rw [show 1 + i - 1 = i by omega]; simp; omega
theorem step_bit (s y : BitVec 32) : step (s ^^^ y) = step (s ^^^ (y &&& 1#32)) ^^^ (y >>> 1) := by
  have h : (y >>> 1).getLsbD 31 = false := by rw [BitVec.getLsbD_ushiftRight]; exact BitVec.getLsbD_of_ge _ _ (by omega)
  calc step (s ^^^ y) = step ((s ^^^ (y &&& 1#32)) ^^^ ((y >>> 1) <<< 1)) := by rw [BitVec.xor_assoc, bit_split]
    _ = _ := by rw [step_xor, step_up _ h]
/-- k of a byte's bits have gone in; what is left of it stands beside. -/
theorem bits_left (s c : BitVec 32) (k : Nat) (t : BitVec 32) (h : steps (8 - k) (t ^^^ (c >>> k)) = steps 8 (s ^^^ c)) (hk : k < 8) :
    steps (8 - (k + 1)) (step (t ^^^ (c >>> k &&& 1#32)) ^^^ (c >>> (k + 1))) = steps 8 (s ^^^ c) := by
  rw [show 8 - k = (8 - (k + 1)) + 1 by omega] at h
  simp only [steps] at h
  rw [step_bit, ← BitVec.shiftRight_add] at h
  exact h
end Cm
end Go.Proofs.Ytnnhkanjneecjaa
