import Derived.Test.YtmddbpkojboogaaKit
namespace Go.Proofs.Ytmddbpkojboogaa
open Go.RowKit
/-! rights as 54 numbers: what each was given, took, freed, and what was moved. -/
def gR (L : List Int) (k : Nat) : Int := L.getD k 0
def cR (L : List Int) (k : Nat) : Int := L.getD (6 + k) 0
def fR (L : List Int) (k : Nat) : Int := L.getD (12 + k) 0
def rR (L : List Int) (i j : Nat) : Int := L.getD (18 + i * 6 + j) 0
def Z54 : List Int := List.replicate 54 0
def amtB (x : Int) : Bool := decide (0 ≤ x) && decide (x ≤ 1125899906842624)
def rowR (L : List Int) (i : Nat) : List Int := [rR L i 0, rR L i 1, rR L i 2, rR L i 3, rR L i 4, rR L i 5]
/-- of one region: are its numbers amounts, is nothing moved to itself, is no more freed than was taken? -/
def rowOK (L : List Int) (i : Nat) : Bool := [gR L i, cR L i, fR L i].all amtB && ((rowR L i).all amtB && (decide (rR L i i = 0) && decide (fR L i ≤ cR L i)))
def leftTo (L : List Int) (k : Nat) : Nat → Int
  | 0 => gR L k - cR L k + fR L k
  | j + 1 => leftTo L k j + (rR L j k - rR L k j)
def leftR (L : List Int) (k : Nat) : Int := leftTo L k 6
def sumTo (f : Nat → Int) : Nat → Int
  | 0 => 0
  | j + 1 => sumTo f j + f j
def limitR (L : List Int) : Int := sumTo (gR L) 6
def usedR (L : List Int) : Int := sumTo (fun k => cR L k - fR L k) 6
def allTo (p : Nat → Bool) : Nat → Bool
  | 0 => true
  | j + 1 => allTo p j && p j
theorem allTo_le (p : Nat → Bool) : ∀ (n j : Nat), j < n → allTo p n = true → p j = true
  | 0, j, h, _ => by omega
  | n + 1, j, h, ha => by
    rw [allTo, Bool.and_eq_true] at ha
    by_cases hj : j < n
    · exact allTo_le p n j hj ha.1
    · obtain rfl : j = n := by omega
      exact ha.2
theorem allTo_no (p : Nat → Bool) : ∀ (n j : Nat), j < n → p j = false → allTo p n = false
  | 0, j, h, _ => by omega
  | n + 1, j, h, hp => by
    rw [allTo]
    by_cases hj : j < n
    · rw [allTo_no p n j hj hp]; rfl
    · obtain rfl : j = n := by omega
      rw [hp, Bool.and_false]
/-- may rights be? -/
def mayR (L : List Int) : Bool := allTo (rowOK L) 6 && (allTo (fun k => decide (0 ≤ leftR L k)) 6 && decide (limitR L ≤ 1125899906842624))
/-- each of the numbers is an amount. -/
structure Amt (L : List Int) : Prop where
  g : ∀ k, k < 6 → 0 ≤ gR L k ∧ gR L k ≤ 1125899906842624
  c : ∀ k, k < 6 → 0 ≤ cR L k ∧ cR L k ≤ 1125899906842624
  f : ∀ k, k < 6 → 0 ≤ fR L k ∧ fR L k ≤ 1125899906842624
  r : ∀ i j, i < 6 → j < 6 → 0 ≤ rR L i j ∧ rR L i j ≤ 1125899906842624
  fc : ∀ k, k < 6 → fR L k ≤ cR L k
  rd : ∀ k, k < 6 → rR L k k = 0
theorem amtB_iff (x : Int) : amtB x = true ↔ 0 ≤ x ∧ x ≤ 1125899906842624 := by simp [amtB]
theorem amt_of {L : List Int} (h : allTo (rowOK L) 6 = true) : Amt L := by
  have hr : ∀ i, i < 6 → (0 ≤ gR L i ∧ gR L i ≤ 1125899906842624) ∧ (0 ≤ cR L i ∧ cR L i ≤ 1125899906842624) ∧ (0 ≤ fR L i ∧ fR L i ≤ 1125899906842624) ∧ (∀ j, j < 6 → 0 ≤ rR L i j ∧ rR L i j ≤ 1125899906842624) ∧ rR L i i = 0 ∧ fR L i ≤ cR L i := by
    intro i hi
    have h1 := allTo_le _ 6 i hi h
    unfold rowOK at h1
    simp only [List.all_cons, List.all_nil, Bool.and_true, Bool.and_eq_true, amtB_iff, decide_eq_true_eq, rowR] at h1
    obtain ⟨⟨a, b, c⟩, ⟨r0, r1, r2, r3, r4, r5⟩, hd, hf⟩ := h1
    refine ⟨a, b, c, fun j hj => ?_, hd, hf⟩
    match j, hj with
    | 0, _ => exact r0
    | 1, _ => exact r1
    | 2, _ => exact r2
    | 3, _ => exact r3
    | 4, _ => exact r4
    | 5, _ => exact r5
  exact ⟨fun k hk => (hr k hk).1, fun k hk => (hr k hk).2.1, fun k hk => (hr k hk).2.2.1, fun i j hi hj => (hr i hi).2.2.2.1 j hj, fun k hk => (hr k hk).2.2.2.2.2, fun k hk => (hr k hk).2.2.2.2.1⟩
theorem amt_may {L : List Int} (h : mayR L = true) : Amt L := by
  unfold mayR at h; rw [Bool.and_eq_true] at h; exact amt_of h.1
theorem may_left {L : List Int} (h : mayR L = true) (k : Nat) (hk : k < 6) : 0 ≤ leftR L k := by
  unfold mayR at h; rw [Bool.and_eq_true, Bool.and_eq_true] at h
  have := allTo_le _ 6 k hk h.2.1
  simpa using this
theorem may_limit {L : List Int} (h : mayR L = true) : limitR L ≤ 1125899906842624 := by
  unfold mayR at h; rw [Bool.and_eq_true, Bool.and_eq_true] at h
  simpa using h.2.2
theorem left_bd {L : List Int} (h : Amt L) (k : Nat) (hk : k < 6) : ∀ j, j ≤ 6 → -1125899906842624 * (1 + j) ≤ leftTo L k j ∧ leftTo L k j ≤ 1125899906842624 * (2 + j)
  | 0, _ => by
    have h1 := h.g k hk; have h2 := h.c k hk; have h3 := h.f k hk
    simp only [leftTo]
    constructor <;> omega
  | j + 1, hj => by
    have ih := left_bd h k hk j (by omega)
    have h1 := h.r j k (by omega) hk; have h2 := h.r k j hk (by omega)
    simp only [leftTo]
    constructor <;> push_cast <;> omega
theorem sumG_bd {L : List Int} (h : Amt L) : ∀ j, j ≤ 6 → 0 ≤ sumTo (gR L) j ∧ sumTo (gR L) j ≤ 1125899906842624 * j
  | 0, _ => by simp [sumTo]
  | j + 1, hj => by
    have ih := sumG_bd h j (by omega)
    have h1 := h.g j (by omega)
    simp only [sumTo]
    constructor <;> push_cast <;> omega
theorem sumU_bd {L : List Int} (h : Amt L) : ∀ j, j ≤ 6 → 0 ≤ sumTo (fun k => cR L k - fR L k) j ∧ sumTo (fun k => cR L k - fR L k) j ≤ 1125899906842624 * j
  | 0, _ => by simp [sumTo]
  | j + 1, hj => by
    have ih := sumU_bd h j (by omega)
    have h1 := h.c j (by omega); have h2 := h.f j (by omega); have h3 := h.fc j (by omega)
    simp only [sumTo]
    constructor <;> push_cast <;> omega
/-- is it a region? -/
def regR (z : Int) : Bool := decide (1 ≤ z) && decide (z ≤ 6)
/-- of each number the greater one. -/
def joinR (L M : List Int) : List Int := L.zipWith (fun a b => if a < b then b else a) M
end Go.Proofs.Ytmddbpkojboogaa
