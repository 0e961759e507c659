import Derived.Test.YtnnhkanjneecjaaOctT
namespace Go.Proofs.Ytnnhkanjneecjaa
open Go.RowKit
/-! What Split makes of strings' bytes, cut anywhere. -/
theorem vl_app (xs ys : List UInt8) : vl (xs ++ ys) = ys.foldl (fun n c => n * 256 + c.toNat) (vl xs) := by simp [vl, List.foldl_append]
theorem vl_be (n : Nat) : ∀ k m : Nat, (be k n).foldl (fun n c => n * 256 + c.toNat) m = m * 256 ^ k + n % 256 ^ k
  | 0, m => by simp [be, Nat.mod_one]
  | k + 1, m => by
    have e : be (k + 1) n = nb n k :: be k n := by simp [be, List.range_succ]
    rw [e, List.foldl_cons, vl_be n k, nb_nat, Nat.pow_succ, Nat.mod_mul, Nat.add_mul]
    have : m * 256 * 256 ^ k = m * (256 ^ k * 256) := by rw [Nat.mul_assoc, Nat.mul_comm 256]
    rw [this, Nat.mul_comm (n / 256 ^ k % 256)]
    omega
theorem vl_be4 (n : Nat) (h : n < 4294967296) : vl (be 4 n) = n := by
  have := vl_be n 4 0
  unfold vl
  rw [this, Nat.zero_mul, Nat.zero_add, Nat.mod_eq_of_lt (by simpa using h)]
/-- where the string j begins. -/
def ofs (L : List (List UInt8)) (j : Nat) : Nat := (enc (L.take j)).length
theorem enc_split (L : List (List UInt8)) (j : Nat) (h : j < L.length) : enc L = enc (L.take j) ++ (be 4 L[j].length ++ (L[j] ++ enc (L.drop (j + 1)))) := by
  have e : enc L = enc (L.take j) ++ enc (L.drop j) := by
    unfold enc; rw [← List.flatten_append, ← List.map_append, List.take_append_drop]
  rw [e, List.drop_eq_getElem_cons h]
  congr 1
theorem ofs_succ (L : List (List UInt8)) (j : Nat) (h : j < L.length) : ofs L (j + 1) = ofs L j + 4 + L[j].length := by
  unfold ofs
  rw [← enc_take L j h, List.length_append, List.length_append, be_len]
theorem ofs_zero (L : List (List UInt8)) : ofs L 0 = 0 := by simp [ofs, enc]
theorem ofs_all (L : List (List UInt8)) : ofs L L.length = (enc L).length := by unfold ofs; rw [List.take_length]
theorem ofs_le (L : List (List UInt8)) (j : Nat) : ofs L j ≤ (enc L).length := enc_prefix L j
theorem ofs_mono (L : List (List UInt8)) (j : Nat) : ofs L j ≤ ofs L (j + 1) := by
  by_cases h : j < L.length
  · rw [ofs_succ L j h]; omega
  · unfold ofs; rw [List.take_of_length_le (by omega), List.take_of_length_le (by omega)]; exact Nat.le_refl _
section
variable {L : List (List UInt8)} {K j : Nat} {q : Int}
theorem cut_drop (h : j < L.length) : ((enc L).take K).drop (ofs L j) = (be 4 L[j].length ++ (L[j] ++ enc (L.drop (j + 1)))).take (K - ofs L j) := by
  rw [List.drop_take, enc_split L j h]
  congr 1
  unfold ofs
  exact List.drop_left
theorem cut_long (h : j < L.length) (h4 : ofs L j + 4 ≤ K) (hs : L[j].length ≤ 4194304) : long ((enc L).take K) (ofs L j) = L[j].length := by
  unfold long
  rw [cut_drop h, List.take_take, Nat.min_eq_left (by omega), List.take_append_of_le_length (by rw [be_len]; omega), List.take_of_length_le (by rw [be_len]; omega)]
  exact vl_be4 _ (by omega)
theorem cut_str (h : j < L.length) (h4 : ofs L j + 4 + L[j].length ≤ K) (hs : L[j].length ≤ 4194304) : strAt ((enc L).take K) (ofs L j) = L[j] := by
  unfold strAt
  rw [cut_long h (by omega) hs, ← List.drop_drop, cut_drop h, List.drop_take, List.take_take, Nat.min_eq_left (by omega), List.drop_left' (be_len 4 _), List.take_left]
theorem cut_len (hK : K ≤ (enc L).length) : ((enc L).take K).length = K := by rw [List.length_take]; omega
theorem cut_nx (hK : K ≤ (enc L).length) (h : j < L.length) (hs : L[j].length ≤ 4194304) :
    nxE ((enc L).take K) q (ofs L j) = if K < ofs L j + 4 then 5 else if q < (L[j].length : Int) then 6 else if K < ofs L (j + 1) then 5 else 0 := by
  unfold nxE
  rw [cut_len hK]
  by_cases h4 : K < ofs L j + 4
  · rw [if_pos h4, if_pos h4]
  · rw [if_neg h4, if_neg h4, cut_long h (by omega) hs, ofs_succ L j h]
/-- Split goes over the first j strings, if they are no longer than q and stand whole. -/
theorem cut_run (hK : K ≤ (enc L).length) (hs : ∀ s ∈ L, s.length ≤ 4194304) : ∀ j, j ≤ L.length → ofs L j ≤ K → (∀ i (h : i < L.length), i < j → (L[i].length : Int) ≤ q) →
    ∃ f, K < f + ofs L j ∧ splR ((enc L).take K) q = spl ((enc L).take K) q f (ofs L j) (L.take j)
  | 0, _, _, _ => ⟨K + 1, by omega, by unfold splR; rw [cut_len hK, ofs_zero]; rfl⟩
  | j + 1, hj, ho, hq => by
    have hjl : j < L.length := by omega
    obtain ⟨f, hf, hr⟩ := cut_run hK hs j (by omega) (Nat.le_trans (ofs_mono L j) ho) (fun i h hi => hq i h (by omega))
    have hsu := ofs_succ L j hjl
    obtain ⟨f, rfl⟩ : ∃ g, f = g + 1 := ⟨f - 1, by omega⟩
    have hlj := hs L[j] (List.getElem_mem hjl)
    have hqj := hq j hjl (by omega)
    refine ⟨f, by omega, ?_⟩
    rw [hr, spl, cut_len hK, if_pos (by omega), if_pos (by rw [cut_nx hK hjl hlj, if_neg (by omega), if_neg (by omega), if_neg (by omega)]), cut_str hjl (by omega) hlj]
    have hn : nxN ((enc L).take K) (ofs L j) = ofs L (j + 1) := by unfold nxN; rw [cut_long hjl (by omega) hlj, hsu]
    rw [hn]
    congr 1
    rw [List.take_succ_eq_append_getElem hjl]
theorem spl_stop (bs : List UInt8) (q : Int) (f a : Nat) (acc : List (List UInt8)) (h : bs.length ≤ a) : spl bs q f a acc = (0, acc) := by
  cases f with
  | zero => rfl
  | succ f => rw [spl, if_neg (by omega)]
/-- cut where the string j begins. -/
theorem cut_at (hs : ∀ s ∈ L, s.length ≤ 4194304) (hj : j ≤ L.length) (hq : ∀ i (h : i < L.length), i < j → (L[i].length : Int) ≤ q) : splR ((enc L).take (ofs L j)) q = (0, L.take j) := by
  have hK := ofs_le L j
  obtain ⟨f, _, hr⟩ := cut_run (K := ofs L j) (q := q) hK hs j hj (Nat.le_refl _) hq
  rw [hr, spl_stop _ _ _ _ _ (by rw [cut_len hK]; exact Nat.le_refl _)]
/-- cut inside the string j. -/
theorem cut_in (hK : K ≤ (enc L).length) (hs : ∀ s ∈ L, s.length ≤ 4194304) (hj : j < L.length) (h1 : ofs L j < K) (h2 : K < ofs L (j + 1)) (hq : ∀ i (h : i < L.length), i ≤ j → (L[i].length : Int) ≤ q) : splR ((enc L).take K) q = (5, []) := by
  obtain ⟨f, hf, hr⟩ := cut_run (q := q) hK hs j (by omega) (by omega) (fun i h hi => hq i h (by omega))
  obtain ⟨f, rfl⟩ : ∃ g, f = g + 1 := ⟨f - 1, by
    rcases f with _ | f
    · omega
    · omega⟩
  have hlj := hs L[j] (List.getElem_mem hj)
  have hqj := hq j hj (by omega)
  have hn : nxE ((enc L).take K) q (ofs L j) = 5 := by
    rw [cut_nx hK hj hlj]
    by_cases h4 : K < ofs L j + 4
    · rw [if_pos h4]
    · rw [if_neg h4, if_neg (by omega), if_pos h2]
  rw [hr, spl, cut_len hK, if_pos h1, if_neg (by rw [hn]; omega), hn]
/-- a string that is too long. -/
theorem cut_many (hs : ∀ s ∈ L, s.length ≤ 4194304) (hj : j < L.length) (hq : ∀ i (h : i < L.length), i < j → (L[i].length : Int) ≤ q) (hl : q < (L[j].length : Int)) : splR (enc L) q = (6, []) := by
  have hsu := ofs_succ L j hj
  have hle := ofs_le L (j + 1)
  obtain ⟨f, hf, hr⟩ := cut_run (K := (enc L).length) (q := q) (Nat.le_refl _) hs j (by omega) (by omega) hq
  rw [List.take_length] at hr
  obtain ⟨f, rfl⟩ : ∃ g, f = g + 1 := ⟨f - 1, by
    rcases f with _ | f
    · omega
    · omega⟩
  have hlj := hs L[j] (List.getElem_mem hj)
  have hn : nxE (enc L) q (ofs L j) = 6 := by
    have := cut_nx (K := (enc L).length) (q := q) (Nat.le_refl _) hj hlj
    rw [List.take_length] at this
    rw [this, if_neg (by omega), if_pos hl]
  rw [hr, spl, if_pos (by omega), if_neg (by rw [hn]; omega), hn]
theorem cut_whole (hs : ∀ s ∈ L, s.length ≤ 4194304) (hq : ∀ i (h : i < L.length), (L[i].length : Int) ≤ q) : splR (enc L) q = (0, L) := by
  have := cut_at (L := L) (j := L.length) (q := q) hs (Nat.le_refl _) (fun i h _ => hq i h)
  rw [ofs_all, List.take_length, List.take_length] at this
  exact this
end
end Go.Proofs.Ytnnhkanjneecjaa
