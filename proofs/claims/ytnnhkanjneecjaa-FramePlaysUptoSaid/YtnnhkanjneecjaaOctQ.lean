import Derived.Test.YtnnhkanjneecjaaOctZ
import Derived.Test.YtnnhkanjneecjaaOctM
namespace Go.Proofs.Ytnnhkanjneecjaa
open Go.RowKit
/-! What Split takes apart, Strings puts together again. -/
theorem be_vl4 (a b c d : UInt8) : be 4 (vl [a, b, c, d]) = [a, b, c, d] := by
  have ha := UInt8.toNat_lt a
  have hb := UInt8.toNat_lt b
  have hc := UInt8.toNat_lt c
  have hd := UInt8.toNat_lt d
  have e : be 4 (vl [a, b, c, d]) = [nb (vl [a, b, c, d]) 3, nb (vl [a, b, c, d]) 2, nb (vl [a, b, c, d]) 1, nb (vl [a, b, c, d]) 0] := rfl
  have hv : vl [a, b, c, d] = ((a.toNat * 256 + b.toNat) * 256 + c.toNat) * 256 + d.toNat := by simp [vl]
  rw [e, hv]
  simp only [List.cons.injEq, and_true]
  refine ⟨?_, ?_, ?_, ?_⟩ <;> (rw [← UInt8.toNat_inj, nb_nat]; omega)
theorem be_vl (x : List UInt8) (h : x.length = 4) : be 4 (vl x) = x := by
  match x, h with
  | [a, b, c, d], _ => exact be_vl4 a b c d
theorem enc_snoc (l : List (List UInt8)) (s : List UInt8) : enc (l ++ [s]) = enc l ++ (be 4 s.length ++ s) := by simp [enc]
theorem enc_step (bs : List UInt8) (a : Nat) (h : a + 4 + long bs a ≤ bs.length) : be 4 (strAt bs a).length ++ strAt bs a = (bs.drop a).take (4 + long bs a) := by
  rw [strAt_len bs a h]
  have h4 : ((bs.drop a).take 4).length = 4 := by rw [List.length_take, List.length_drop]; omega
  have e : be 4 (long bs a) = (bs.drop a).take 4 := by unfold long; exact be_vl _ h4
  rw [e]
  unfold strAt
  rw [List.take_add, List.drop_drop]
theorem spl_enc (bs : List UInt8) (q : Int) : ∀ f a acc, bs.length < f + a → a ≤ bs.length → enc acc = bs.take a → (spl bs q f a acc).1 = 0 → enc (spl bs q f a acc).2 = bs
  | 0, a, acc, hf, ha, _, _ => by omega
  | f + 1, a, acc, hf, ha, he, h0 => by
    rw [spl] at h0 ⊢
    by_cases hlt : a < bs.length
    · rw [if_pos hlt] at h0 ⊢
      by_cases hn : nxE bs q a = 0
      · rw [if_pos hn] at h0 ⊢
        obtain ⟨h1, h2, h3, h4⟩ := nx_ok hn
        refine spl_enc bs q f _ _ (by omega) h3 ?_ h0
        unfold nxN at h3 ⊢
        rw [enc_snoc, he, enc_step bs a h3, Nat.add_assoc a 4]
        exact List.take_add.symm
      · rw [if_neg hn] at h0
        exact absurd h0 hn
    · rw [if_neg hlt]
      have : a = bs.length := by omega
      rw [he, this, List.take_length]
theorem spl_bad (bs : List UInt8) (q : Int) : ∀ f a acc, (spl bs q f a acc).1 = 0 ∨ (((spl bs q f a acc).1 = 5 ∨ (spl bs q f a acc).1 = 6) ∧ (spl bs q f a acc).2 = [])
  | 0, a, acc => .inl rfl
  | f + 1, a, acc => by
    rw [spl]
    by_cases hlt : a < bs.length
    · rw [if_pos hlt]
      by_cases hn : nxE bs q a = 0
      · rw [if_pos hn]; exact spl_bad bs q f _ _
      · rw [if_neg hn]
        refine .inr ⟨?_, rfl⟩
        show nxE bs q a = 5 ∨ nxE bs q a = 6
        unfold nxE at hn ⊢
        split
        · exact .inl rfl
        · split
          · exact .inr rfl
          · split
            · exact .inl rfl
            · rename_i h1 h2 h3
              rw [if_neg h1, if_neg h2, if_neg h3] at hn
              exact absurd rfl hn
    · rw [if_neg hlt]; exact .inl rfl
/-- both ends of Split, as it is read here: either all of it, and Strings gives it back, or an error and nothing. -/
theorem splR_back (bs : List UInt8) (q : Int) : ((splR bs q).1 = 0 ∧ enc (splR bs q).2 = bs) ∨ (((splR bs q).1 = 5 ∨ (splR bs q).1 = 6) ∧ (splR bs q).2 = []) := by
  rcases spl_bad bs q (bs.length + 1) 0 [] with h | h
  · exact .inl ⟨h, spl_enc bs q _ 0 [] (by omega) (by omega) (by simp [enc]) h⟩
  · exact .inr h
theorem enc_mem (l : List (List UInt8)) : ∀ s ∈ l, s.length ≤ (enc l).length := by
  induction l with
  | nil => intro s h; cases h
  | cons x l ih =>
    intro s h
    have e : enc (x :: l) = be 4 x.length ++ x ++ enc l := by simp [enc]
    rw [e, List.length_append, List.length_append]
    rcases List.mem_cons.1 h with rfl | h
    · omega
    · have := ih s h; omega
theorem enc_long (l : List (List UInt8)) : l.length ≤ (enc l).length := by
  induction l with
  | nil => simp
  | cons x l ih =>
    have e : enc (x :: l) = be 4 x.length ++ x ++ enc l := by simp [enc]
    rw [e, List.length_append, List.length_append, be_len, List.length_cons]
    omega
theorem split_n (A : Option Addr) (n c : Nat) (bs : List UInt8) (q : Int) (w : World) (hb : Bytes w w.heap.size A bs) (hn : n = bs.length) (hc : n ≤ c) (hl : bs.length ≤ 1099511627776) (hcm : c ≤ maxLen) (hq : -9223372036854775808 ≤ q ∧ q ≤ 9223372036854775807) :
    Calls Try.prog 26 #[.slice A n c, .int .i64 q] w (AnswerS w (splR bs q)) := by
  subst hn; exact split_any A c bs q w hb hc hl hcm hq
theorem takeString_n (A : Option Addr) (n c : Nat) (bs s : List UInt8) (a : Nat) (w : World) (hb : Bytes w w.heap.size A bs) (hn : n = bs.length) (hc : n ≤ c) (hl : bs.length ≤ maxLen) (hcm : c ≤ maxLen)
    (HN : Hid (long bs a = s.length)) (HS : Hid (strAt bs a = s)) (hsh : a + 4 + s.length ≤ bs.length) :
    Calls Try.prog 24 #[.slice A n c, .int .i64 (a : Int), .int .i64 (s.length : Int)] w fun e w' => ∃ A' n' c', e = .returned (.tuple #[.slice A' n' c', .int .i64 (((a + 4 + s.length : Nat)) : Int), .int .i64 0]) ∧ n' = s.length ∧
      OwnB w' w.heap.size 5 (.slice A' n' c') s ∧ Below w.heap.size w w' := by
  subst hn
  have h := hcm
  unfold maxLen at h
  exact takeString_cut A c bs s a s.length s.length w hb hc hl hcm HN HS (Nat.le_refl _) (by unfold maxLen at hl; omega) hsh
theorem vl_bek (n k : Nat) (h : n < 256 ^ k) : vl (be k n) = n := by
  have := vl_be n k 0
  unfold vl
  rw [this, Nat.zero_mul, Nat.zero_add, Nat.mod_eq_of_lt h]
section
variable (head tail s : List UInt8) (k n : Nat)
/-- the bytes that OctetBack lays. -/
def laid : List UInt8 := head ++ be k n ++ be 4 s.length ++ s ++ tail
theorem laid_len : (laid head tail s k n).length = head.length + k + 4 + s.length + tail.length := by
  unfold laid; simp only [List.length_append, be_len]
theorem laid_num (h : n < 256 ^ k) : vl (((laid head tail s k n).drop head.length).take k) = n := by
  have e : laid head tail s k n = head ++ (be k n ++ (be 4 s.length ++ (s ++ tail))) := by unfold laid; simp only [List.append_assoc]
  rw [e, List.drop_left, List.take_left' (be_len k n), vl_bek n k h]
theorem laid_long (h : s.length < 4294967296) : long (laid head tail s k n) (head.length + k) = s.length := by
  have e : laid head tail s k n = (head ++ be k n) ++ (be 4 s.length ++ (s ++ tail)) := by unfold laid; simp only [List.append_assoc]
  unfold long
  rw [e, List.drop_left' (by rw [List.length_append, be_len]), List.take_left' (be_len 4 _), vl_be4 _ h]
theorem laid_str (h : s.length < 4294967296) : strAt (laid head tail s k n) (head.length + k) = s := by
  have e : laid head tail s k n = (head ++ be k n ++ be 4 s.length) ++ (s ++ tail) := by unfold laid; simp only [List.append_assoc]
  unfold strAt
  rw [laid_long head tail s k n h, e, List.drop_left' (by simp only [List.length_append, be_len]), List.take_left]
end
/-- the sizes, as the statement lists them. -/
def sizeRow : Array Value := #[.int .i64 1, .int .i64 2, .int .i64 4, .int .i64 8]
theorem size_at (z : Nat) : ∃ k, Size k ∧ sizeRow[z % 4]? = some (.int .i64 (k : Int)) := by
  have : z % 4 = 0 ∨ z % 4 = 1 ∨ z % 4 = 2 ∨ z % 4 = 3 := by omega
  rcases this with h | h | h | h <;> rw [h]
  · exact ⟨1, .inl rfl, rfl⟩
  · exact ⟨2, .inr (.inl rfl), rfl⟩
  · exact ⟨4, .inr (.inr (.inl rfl)), rfl⟩
  · exact ⟨8, .inr (.inr (.inr rfl)), rfl⟩
/-- Split of what Strings made. -/
theorem split_whole (A : Option Addr) (n c : Nat) (l : List (List UInt8)) (q : Nat) (w : World) (hb : Bytes w w.heap.size A (enc l)) (hn : n = (enc l).length) (hc : n ≤ c) (hl : (enc l).length ≤ 1099511627776) (hcm : c ≤ maxLen) (hq : q ≤ 4194304) (hs : ∀ s ∈ l, s.length ≤ q) :
    Calls Try.prog 26 #[.slice A n c, .int .i64 (q : Int)] w fun e w' => ∃ A n c, e = .returned (.tuple #[.slice A n c, .int .i64 0]) ∧ n = l.length ∧ OwnS w' w.heap.size (.slice A n c) l ∧ Below w.heap.size w w' := by
  have h := split_n A n c (enc l) (q : Int) w hb hn hc hl hcm (by omega)
  rw [cut_whole (fun s h => Nat.le_trans (hs s h) hq) (fun i h => by have := hs l[i] (List.getElem_mem h); omega)] at h
  exact h
/-- Split of whatever bytes. -/
theorem split_back (A : Option Addr) (c : Nat) (bs : List UInt8) (q : Nat) (w : World) (hb : Bytes w w.heap.size A bs) (hc : bs.length ≤ c) (hl : bs.length ≤ 1099511627776) (hcm : c ≤ maxLen) (hq : q ≤ 4194304) :
    Calls Try.prog 26 #[.slice A bs.length c, .int .i64 (q : Int)] w fun e w' => (∃ A n c l, e = .returned (.tuple #[.slice A n c, .int .i64 0]) ∧ n = l.length ∧ enc l = bs ∧ OwnS w' w.heap.size (.slice A n c) l ∧ Below w.heap.size w w') ∨
      (∃ (A : Option Addr) (c : Nat) (E : Int), e = .returned (.tuple #[.slice A 0 c, .int .i64 E]) ∧ (E = 5 ∨ E = 6) ∧ Below w.heap.size w w') := by
  refine (split_any A c bs (q : Int) w hb hc hl hcm (by omega)).mono ?_
  rintro e w' ⟨A', n', c', rfl, hn, hS, hbel⟩
  rcases splR_back bs (q : Int) with ⟨h0, he⟩ | ⟨h56, hnil⟩
  · refine .inl ⟨A', n', c', _, ?_, hn, he, hS, hbel⟩
    rw [h0]; rfl
  · rw [hnil] at hn
    subst hn
    refine .inr ⟨A', c', _, rfl, ?_, hbel⟩
    rcases h56 with h | h <;> rw [h]
    · exact .inl rfl
    · exact .inr rfl
theorem size_pow {k : Nat} (hk : Size k) : 256 ^ k ≤ 18446744073709551616 ∧ 256 ^ k = top k + 1 := by
  rcases hk with rfl | rfl | rfl | rfl <;> exact ⟨by decide, by decide⟩
theorem size_shift {k : Nat} (hk : Size k) (h : k < 8) : IntKind.u64.wrap (2 ^ (8 * k)) = ((256 ^ k : Nat) : Int) := by
  rcases hk with rfl | rfl | rfl | rfl
  · decide
  · decide
  · decide
  · omega
end Go.Proofs.Ytnnhkanjneecjaa
