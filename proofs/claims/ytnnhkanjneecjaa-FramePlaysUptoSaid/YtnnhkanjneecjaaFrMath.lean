import Derived.Test.YtnnhkanjneecjaaOctQ
namespace Go.Proofs.Ytnnhkanjneecjaa
open Go.RowKit
/-! Frames, as bytes: what a frame is, what is read of any bytes, what is read of frames that were cut or turned. -/
/-- the sum of bytes. -/
def cs (bs : List UInt8) : BitVec 32 := ~~~ Cm.more (~~~ 0#32) (wide bs)
theorem not_not (x : BitVec 32) : ~~~ (~~~ x) = x := by
  apply BitVec.eq_of_getLsbD_eq; intro i hi; simp [hi]
theorem wide_append (a b : List UInt8) : wide (a ++ b) = wide a ++ wide b := by simp [wide]
theorem cs_more (a b : List UInt8) : ~~~ Cm.more (~~~ (cs a)) (wide b) = cs (a ++ b) := by
  unfold cs
  rw [not_not, wide_append, Cm.more_append]
theorem more_inj (l : List (BitVec 32)) (s t : BitVec 32) (h : Cm.more s l = Cm.more t l) : s = t := by
  have e : Cm.more (s ^^^ (s ^^^ t)) l = Cm.more s l ^^^ Cm.steps (8 * l.length) (s ^^^ t) := Cm.more_state l s (s ^^^ t)
  rw [show s ^^^ (s ^^^ t) = t by rw [← BitVec.xor_assoc, BitVec.xor_self, BitVec.zero_xor], h] at e
  have z : Cm.steps (8 * l.length) (s ^^^ t) = 0#32 := by
    have : Cm.more t l ^^^ Cm.more t l = Cm.more t l ^^^ (Cm.more t l ^^^ Cm.steps (8 * l.length) (s ^^^ t)) := by rw [← e]
    rw [BitVec.xor_self, ← BitVec.xor_assoc, BitVec.xor_self, BitVec.zero_xor] at this
    exact this.symm
  exact Cm.xor_eq_zero (Cm.steps_ne_zero _ _ z)
/-- one byte turned: another sum. -/
theorem cs_turned (p q : List UInt8) (c d : UInt8) (h : cs (p ++ c :: q) = cs (p ++ d :: q)) : c = d := by
  unfold cs at h
  have h' : Cm.more (~~~ 0#32) (wide (p ++ c :: q)) = Cm.more (~~~ 0#32) (wide (p ++ d :: q)) := by
    have := congrArg (fun x => ~~~ x) h
    simpa only [not_not] using this
  rw [wide_append, wide_append, Cm.more_append, Cm.more_append] at h'
  generalize Cm.more (~~~ 0#32) (wide p) = S at h'
  have e : ∀ x : UInt8, wide (x :: q) = BitVec.ofNat 32 x.toNat :: wide q := fun x => rfl
  rw [e, e] at h'
  simp only [Cm.more] at h'
  have h2 := Cm.steps_inj 8 _ _ (more_inj _ _ _ h')
  have h3 : BitVec.ofNat 32 c.toNat = BitVec.ofNat 32 d.toNat := by
    have := congrArg (fun x => S ^^^ x) h2
    simpa only [← BitVec.xor_assoc, BitVec.xor_self, BitVec.zero_xor] using this
  have h4 := congrArg BitVec.toNat h3
  have hc := UInt8.toNat_lt c
  have hd := UInt8.toNat_lt d
  rw [BitVec.toNat_ofNat, BitVec.toNat_ofNat, Nat.mod_eq_of_lt (by omega), Nat.mod_eq_of_lt (by omega)] at h4
  exact UInt8.toNat_inj.1 h4
/-- a frame. -/
def hd (s : List UInt8) : List UInt8 := be 4 s.length ++ be 4 (cs (be 4 s.length ++ s)).toNat
def fr (s : List UInt8) : List UInt8 := hd s ++ s
def encF (l : List (List UInt8)) : List UInt8 := (l.map fr).flatten
theorem hd_len (s : List UInt8) : (hd s).length = 8 := by unfold hd; rw [List.length_append, be_len, be_len]
theorem fr_len (s : List UInt8) : (fr s).length = 8 + s.length := by unfold fr; rw [List.length_append, hd_len]
theorem encF_nil : encF [] = [] := rfl
theorem encF_cons (s : List UInt8) (l : List (List UInt8)) : encF (s :: l) = fr s ++ encF l := by simp [encF]
theorem encF_app (l m : List (List UInt8)) : encF (l ++ m) = encF l ++ encF m := by simp [encF]
theorem encF_one (s : List UInt8) : encF [s] = fr s := by simp [encF]
theorem encF_take (l : List (List UInt8)) (k : Nat) (h : k < l.length) : encF (l.take (k + 1)) = encF (l.take k) ++ fr l[k] := by
  rw [List.take_succ_eq_append_getElem h, encF_app, encF_one]
/-- what stands at a place. -/
def recAt (bs : List UInt8) (a : Nat) : List UInt8 := (bs.drop (a + 8)).take (long bs a)
def sumAt (bs : List UInt8) (a : Nat) : Nat := vl ((bs.drop (a + 4)).take 4)
def csAt (bs : List UInt8) (a : Nat) : BitVec 32 := cs ((bs.drop a).take 4 ++ recAt bs a)
def fok (bs : List UInt8) (a : Nat) : Prop := a + 8 + long bs a ≤ bs.length ∧ long bs a ≤ 4096 ∧ (csAt bs a).toNat = sumAt bs a
instance (bs : List UInt8) (a : Nat) : Decidable (fok bs a) := by unfold fok; exact inferInstance
def fnx (bs : List UInt8) (a : Nat) : Nat := a + 8 + long bs a
def fal (bs : List UInt8) : Nat → Nat → List (List UInt8) → List (List UInt8) × Nat
  | 0, a, acc => (acc, a)
  | f + 1, a, acc => if fok bs a then fal bs f (fnx bs a) (acc ++ [recAt bs a]) else (acc, a)
def falR (bs : List UInt8) : List (List UInt8) × Nat := fal bs (bs.length + 1) 0 []
theorem recAt_len (bs : List UInt8) (a : Nat) (h : a + 8 + long bs a ≤ bs.length) : (recAt bs a).length = long bs a := by
  unfold recAt; rw [List.length_take, List.length_drop]; omega
theorem drop4 (bs : List UInt8) (a : Nat) (h : a + 4 ≤ bs.length) : ((bs.drop a).take 4).length = 4 := by rw [List.length_take, List.length_drop]; omega
theorem be_long (bs : List UInt8) (a : Nat) (h : a + 4 ≤ bs.length) : be 4 (long bs a) = (bs.drop a).take 4 := by unfold long; exact be_vl _ (drop4 bs a h)
/-- a frame that stands is the frame of its record. -/
theorem fr_at (bs : List UInt8) (a : Nat) (h : fok bs a) : fr (recAt bs a) = (bs.drop a).take (8 + long bs a) := by
  obtain ⟨h1, h2, h3⟩ := h
  have e1 := be_long bs a (by omega)
  have e2 : be 4 (sumAt bs a) = (bs.drop (a + 4)).take 4 := be_vl _ (drop4 bs (a + 4) (by omega))
  unfold csAt at h3
  unfold fr hd
  rw [recAt_len bs a h1, e1, h3, e2]
  unfold recAt
  rw [show 8 + long bs a = 4 + (4 + long bs a) by omega, List.take_add, List.take_add, List.drop_drop, List.drop_drop, List.append_assoc]
theorem fal_enc (bs : List UInt8) : ∀ f a acc, a ≤ bs.length → encF acc = bs.take a → encF (fal bs f a acc).1 = bs.take (fal bs f a acc).2 ∧ (fal bs f a acc).2 ≤ bs.length
  | 0, a, acc, ha, he => ⟨he, ha⟩
  | f + 1, a, acc, ha, he => by
    rw [fal]
    by_cases h : fok bs a
    · rw [if_pos h]
      refine fal_enc bs f _ _ h.1 ?_
      unfold fnx
      rw [encF_app, encF_one, fr_at bs a h, he, Nat.add_assoc a 8]
      exact List.take_add.symm
    · rw [if_neg h]; exact ⟨he, ha⟩
theorem fal_le (bs : List UInt8) : ∀ f a acc, (∀ s ∈ acc, s.length ≤ 4096) → ∀ s ∈ (fal bs f a acc).1, s.length ≤ 4096
  | 0, a, acc, ha => ha
  | f + 1, a, acc, ha => by
    rw [fal]
    by_cases h : fok bs a
    · rw [if_pos h]
      refine fal_le bs f _ _ fun s hs => ?_
      rcases List.mem_append.1 hs with h' | h'
      · exact ha s h'
      · rw [List.mem_singleton.1 h', recAt_len bs a h.1]; exact h.2.1
    · rw [if_neg h]; exact ha
theorem falR_back (bs : List UInt8) : encF (falR bs).1 = bs.take (falR bs).2 ∧ (falR bs).2 ≤ bs.length := fal_enc bs _ 0 [] (by omega) rfl
theorem falR_le (bs : List UInt8) : ∀ s ∈ (falR bs).1, s.length ≤ 4096 := fal_le bs _ 0 [] (fun s h => by cases h)
theorem fal_ext (bs : List UInt8) : ∀ f a acc, (∃ m, (fal bs f a acc).1 = acc ++ m) ∧ a ≤ (fal bs f a acc).2
  | 0, a, acc => ⟨⟨[], by simp [fal]⟩, Nat.le_refl _⟩
  | f + 1, a, acc => by
    rw [fal]
    by_cases h : fok bs a
    · rw [if_pos h]
      obtain ⟨⟨m, hm⟩, h2⟩ := fal_ext bs f (fnx bs a) (acc ++ [recAt bs a])
      refine ⟨⟨[recAt bs a] ++ m, by rw [hm, List.append_assoc]⟩, ?_⟩
      unfold fnx at h2 ⊢; omega
    · rw [if_neg h]; exact ⟨⟨[], by simp⟩, Nat.le_refl _⟩
/-! what stands behind other bytes. -/
theorem drop_pre (p r : List UInt8) (k : Nat) : (p ++ r).drop (p.length + k) = r.drop k := by
  rw [← List.drop_drop, List.drop_left]
theorem long_pre (p r : List UInt8) (a : Nat) : long (p ++ r) (p.length + a) = long r a := by
  unfold long; rw [drop_pre]
theorem recAt_pre (p r : List UInt8) (a : Nat) : recAt (p ++ r) (p.length + a) = recAt r a := by
  unfold recAt; rw [long_pre, Nat.add_assoc, drop_pre]
theorem fok_pre (p r : List UInt8) (a : Nat) : fok (p ++ r) (p.length + a) ↔ fok r a := by
  unfold fok csAt sumAt
  rw [long_pre, recAt_pre, drop_pre, Nat.add_assoc p.length a 4, drop_pre, List.length_append]
  constructor
  · rintro ⟨h1, h2, h3⟩; exact ⟨by omega, h2, h3⟩
  · rintro ⟨h1, h2, h3⟩; exact ⟨by omega, h2, h3⟩
theorem fnx_pre (p r : List UInt8) (a : Nat) : fnx (p ++ r) (p.length + a) = p.length + fnx r a := by
  unfold fnx; rw [long_pre]; omega
theorem hd_long (s r : List UInt8) (h : s.length ≤ 4096) : long (hd s ++ r) 0 = s.length := by
  unfold long hd
  rw [List.drop_zero, List.append_assoc, List.take_left' (be_len 4 _), vl_be4 _ (by omega)]
theorem fr_long (s r : List UInt8) (h : s.length ≤ 4096) : long (fr s ++ r) 0 = s.length := by
  unfold fr; rw [List.append_assoc]; exact hd_long s _ h
theorem fr_rec (s r : List UInt8) (h : s.length ≤ 4096) : recAt (fr s ++ r) 0 = s := by
  unfold recAt
  rw [fr_long s r h]
  unfold fr
  rw [Nat.zero_add, List.append_assoc, List.drop_left' (hd_len s), List.take_left]
theorem fr_ok (s r : List UInt8) (h : s.length ≤ 4096) : fok (fr s ++ r) 0 := by
  refine ⟨?_, ?_, ?_⟩
  · rw [fr_long s r h, List.length_append, fr_len]; omega
  · rw [fr_long s r h]; exact h
  · unfold csAt sumAt
    rw [fr_rec s r h]
    unfold fr hd
    rw [List.drop_zero, Nat.zero_add, List.append_assoc, List.append_assoc, List.take_left' (be_len 4 _), List.drop_left' (be_len 4 _), List.take_left' (be_len 4 _)]
    exact (vl_be4 _ (BitVec.isLt _)).symm
/-- the frames ahead are read. -/
theorem fal_run (r : List UInt8) (l : List (List UInt8)) (hs : ∀ s ∈ l, s.length ≤ 4096) : ∃ f, r.length < f ∧ falR (encF l ++ r) = fal (encF l ++ r) f (encF l).length l := by
  have go : ∀ k, k ≤ l.length → ∃ f, (encF l ++ r).length < f + (encF (l.take k)).length ∧ falR (encF l ++ r) = fal (encF l ++ r) f (encF (l.take k)).length (l.take k) := by
    intro k
    induction k with
    | zero => intro _; exact ⟨(encF l ++ r).length + 1, by simp [encF], by unfold falR; simp [encF]⟩
    | succ k ih =>
      intro hk
      obtain ⟨f, hf, hr⟩ := ih (by omega)
      have hlt : k < l.length := by omega
      have hsk := hs l[k] (List.getElem_mem hlt)
      have e : encF l ++ r = encF (l.take k) ++ (fr l[k] ++ (encF (l.drop (k + 1)) ++ r)) := by
        rw [← List.append_assoc, ← List.append_assoc, ← encF_take l k hlt, ← encF_app, List.take_append_drop]
      have e2 : (encF (l.take (k + 1))).length = (encF (l.take k)).length + (8 + l[k].length) := by rw [encF_take l k hlt, List.length_append, fr_len]
      have hle : (encF (l.take (k + 1))).length ≤ (encF l ++ r).length := by
        rw [e, ← List.append_assoc, ← encF_take l k hlt, List.length_append]; omega
      obtain ⟨f, rfl⟩ : ∃ g, f = g + 1 := ⟨f - 1, by
        rcases f with _ | f
        · omega
        · omega⟩
      have hok : fok (encF l ++ r) (encF (l.take k)).length := by
        have := (fok_pre (encF (l.take k)) (fr l[k] ++ (encF (l.drop (k + 1)) ++ r)) 0).2 (fr_ok l[k] _ hsk)
        rw [← e, Nat.add_zero] at this; exact this
      have hrec : recAt (encF l ++ r) (encF (l.take k)).length = l[k] := by
        have := recAt_pre (encF (l.take k)) (fr l[k] ++ (encF (l.drop (k + 1)) ++ r)) 0
        rw [← e, Nat.add_zero, fr_rec l[k] _ hsk] at this; exact this
      have hnx : fnx (encF l ++ r) (encF (l.take k)).length = (encF (l.take (k + 1))).length := by
        have := fnx_pre (encF (l.take k)) (fr l[k] ++ (encF (l.drop (k + 1)) ++ r)) 0
        rw [← e, Nat.add_zero] at this
        rw [this, e2]
        unfold fnx
        rw [fr_long l[k] _ hsk]
      refine ⟨f, by omega, ?_⟩
      rw [hr, fal, if_pos hok, hrec, hnx, List.take_succ_eq_append_getElem hlt]
  obtain ⟨f, hf, hr⟩ := go l.length (Nat.le_refl _)
  rw [List.take_length] at hf hr
  rw [List.length_append] at hf
  exact ⟨f, by omega, hr⟩
theorem falR_stop (r : List UInt8) (l : List (List UInt8)) (hs : ∀ s ∈ l, s.length ≤ 4096) (h : ¬ fok r 0) : falR (encF l ++ r) = (l, (encF l).length) := by
  obtain ⟨f, hf, hr⟩ := fal_run r l hs
  rw [hr]
  cases f with
  | zero => omega
  | succ f =>
    rw [fal, if_neg]
    intro h'
    apply h
    have := fok_pre (encF l) r 0
    rw [Nat.add_zero] at this
    exact this.1 h'
theorem falR_pre (r : List UInt8) (l : List (List UInt8)) (hs : ∀ s ∈ l, s.length ≤ 4096) : (∃ m, (falR (encF l ++ r)).1 = l ++ m) ∧ (encF l).length ≤ (falR (encF l ++ r)).2 := by
  obtain ⟨f, _, hr⟩ := fal_run r l hs
  rw [hr]; exact fal_ext _ _ _ _
theorem fok_short (r : List UInt8) (h : r.length < 8) : ¬ fok r 0 := fun h' => by have := h'.1; omega
theorem fok_nil : ¬ fok [] 0 := fok_short [] (by simp)
/-- a frame that was cut. -/
theorem fok_cut (s : List UInt8) (k : Nat) (hs : s.length ≤ 4096) (hk : k < (fr s).length) : ¬ fok ((fr s).take k) 0 := by
  intro h
  have hl : ((fr s).take k).length = k := by rw [List.length_take]; omega
  have h1 := h.1
  rw [hl] at h1
  have hk8 : 8 ≤ k := by omega
  have e : (fr s).take k = hd s ++ s.take (k - 8) := by
    unfold fr
    rw [List.take_append, hd_len, List.take_of_length_le (by rw [hd_len]; omega)]
  rw [e, hd_long s _ hs] at h1
  rw [fr_len] at hk
  omega
theorem falR_all (l : List (List UInt8)) (hs : ∀ s ∈ l, s.length ≤ 4096) : falR (encF l) = (l, (encF l).length) := by
  have := falR_stop [] l hs fok_nil
  rw [List.append_nil] at this; exact this
/-- cut inside the frame k, or where it begins. -/
theorem falR_cut (l : List (List UInt8)) (hs : ∀ s ∈ l, s.length ≤ 4096) (k K : Nat) (hk : k ≤ l.length) (h1 : (encF (l.take k)).length ≤ K) (h2 : K < (encF (l.take (k + 1))).length ∨ K = (encF l).length ∧ k = l.length) :
    falR ((encF l).take K) = (l.take k, (encF (l.take k)).length) := by
  have hst : ∀ s ∈ l.take k, s.length ≤ 4096 := fun s h => hs s (List.mem_of_mem_take h)
  rcases Nat.lt_or_ge k l.length with hlt | hge
  · have e : encF l = encF (l.take k) ++ (fr l[k] ++ encF (l.drop (k + 1))) := by
      rw [← List.append_assoc, ← encF_take l k hlt, ← encF_app, List.take_append_drop]
    have h2' : K < (encF (l.take (k + 1))).length := by
      rcases h2 with h | ⟨_, h⟩
      · exact h
      · omega
    rw [encF_take l k hlt, List.length_append] at h2'
    have e2 : (encF l).take K = encF (l.take k) ++ (fr l[k]).take (K - (encF (l.take k)).length) := by
      rw [e, List.take_append, List.take_of_length_le h1, List.take_append_of_le_length (by omega)]
    rw [e2]
    exact falR_stop _ _ hst (fok_cut _ _ (hs _ (List.getElem_mem hlt)) (by omega))
  · have hkl : k = l.length := by omega
    subst hkl
    rw [List.take_length] at h1 ⊢
    have hK : (encF l).length ≤ K := h1
    rw [List.take_of_length_le hK]
    exact falR_all l hs
/-- a byte of the sum turned. -/
theorem fok_sum (s r : List UInt8) (x : Nat) (hs : s.length ≤ 4096) (hx : ¬ x % 4294967296 = (cs (be 4 s.length ++ s)).toNat) : ¬ fok (be 4 s.length ++ be 4 x ++ s ++ r) 0 := by
  intro h
  have h3 := h.2.2
  have hlong : long (be 4 s.length ++ be 4 x ++ s ++ r) 0 = s.length := by
    unfold long; rw [List.drop_zero, List.append_assoc, List.append_assoc, List.take_left' (be_len 4 _), vl_be4 _ (by omega)]
  have hrec : recAt (be 4 s.length ++ be 4 x ++ s ++ r) 0 = s := by
    unfold recAt
    rw [hlong, Nat.zero_add, List.append_assoc, List.drop_left' (by rw [List.length_append, be_len, be_len]), List.take_left]
  unfold csAt sumAt at h3
  rw [hrec, List.drop_zero, Nat.zero_add, List.append_assoc, List.append_assoc, List.take_left' (be_len 4 _), List.drop_left' (be_len 4 _), List.take_left' (be_len 4 _)] at h3
  have hv : vl (be 4 x) = x % 4294967296 := by
    have := vl_be x 4 0
    unfold vl
    rw [this, Nat.zero_mul, Nat.zero_add]
  rw [hv] at h3
  exact hx h3.symm
/-- a byte of the record turned. -/
theorem fok_rec (s t r : List UInt8) (hs : s.length ≤ 4096) (ht : t.length = s.length) (hx : ¬ cs (be 4 s.length ++ t) = cs (be 4 s.length ++ s)) : ¬ fok (hd s ++ t ++ r) 0 := by
  intro h
  have h3 := h.2.2
  have hlong : long (hd s ++ t ++ r) 0 = s.length := by
    rw [List.append_assoc]; exact hd_long s _ hs
  have hrec : recAt (hd s ++ t ++ r) 0 = t := by
    unfold recAt
    rw [hlong, Nat.zero_add, List.append_assoc, List.drop_left' (hd_len s), ← ht, List.take_left]
  unfold csAt sumAt at h3
  rw [hrec] at h3
  unfold hd at h3
  rw [List.drop_zero, Nat.zero_add, List.append_assoc, List.append_assoc, List.take_left' (be_len 4 _), List.drop_left' (be_len 4 _), List.take_left' (be_len 4 _)] at h3
  rw [vl_be4 _ (BitVec.isLt _)] at h3
  exact hx (BitVec.eq_of_toNat_eq h3)
end Go.Proofs.Ytnnhkanjneecjaa
