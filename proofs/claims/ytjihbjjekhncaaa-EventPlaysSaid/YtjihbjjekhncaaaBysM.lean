import Derived.Test.YtjihbjjekhncaaaKitB
namespace Go.Proofs.Ytjihbjjekhncaaa
open Go.RowKit
/-! a vector's numbers as bytes, greatest first. -/
def be8 (n : Nat) : List UInt8 := [UInt8.ofNat (n / 72057594037927936 % 256), UInt8.ofNat (n / 281474976710656 % 256), UInt8.ofNat (n / 1099511627776 % 256), UInt8.ofNat (n / 4294967296 % 256), UInt8.ofNat (n / 16777216 % 256), UInt8.ofNat (n / 65536 % 256), UInt8.ofNat (n / 256 % 256), UInt8.ofNat (n % 256)]
def num (l : List UInt8) : Nat := l.foldl (fun a c => a * 256 + c.toNat) 0
theorem be8_len (n : Nat) : (be8 n).length = 8 := rfl
theorem toNat_ofNat (n : Nat) : (UInt8.ofNat (n % 256)).toNat = n % 256 := by
  simp
theorem num_be8 (n : Nat) (h : n < 18446744073709551616) : num (be8 n) = n := by
  simp only [num, be8, List.foldl_cons, List.foldl_nil, toNat_ofNat]
  omega
theorem ofNat_toNat (c : UInt8) (n : Nat) (h : n = c.toNat) : UInt8.ofNat n = c := by subst h; simp
theorem be8_num (a b c d e f g h : UInt8) : be8 (num [a, b, c, d, e, f, g, h]) = [a, b, c, d, e, f, g, h] := by
  have ha := a.toNat_lt; have hb := b.toNat_lt; have hc := c.toNat_lt; have hd := d.toNat_lt
  have he := e.toNat_lt; have hf := f.toNat_lt; have hg := g.toNat_lt; have hh := h.toNat_lt
  simp only [num, be8, List.foldl_cons, List.foldl_nil]
  rw [ofNat_toNat a _ (by omega), ofNat_toNat b _ (by omega), ofNat_toNat c _ (by omega), ofNat_toNat d _ (by omega), ofNat_toNat e _ (by omega), ofNat_toNat f _ (by omega), ofNat_toNat g _ (by omega), ofNat_toNat h _ (by omega)]
theorem num_lt (a b c d e f g h : UInt8) : num [a, b, c, d, e, f, g, h] < 18446744073709551616 := by
  have ha := a.toNat_lt; have hb := b.toNat_lt; have hc := c.toNat_lt; have hd := d.toNat_lt
  have he := e.toNat_lt; have hf := f.toNat_lt; have hg := g.toNat_lt; have hh := h.toNat_lt
  simp only [num, List.foldl_cons, List.foldl_nil]
  omega
theorem eight (l : List UInt8) (h : l.length = 8) : ∃ a b c d e f g i, l = [a, b, c, d, e, f, g, i] := by
  match l, h with
  | [a, b, c, d, e, f, g, i], _ => exact ⟨a, b, c, d, e, f, g, i, rfl⟩
theorem be8_num' (l : List UInt8) (h : l.length = 8) : be8 (num l) = l := by
  obtain ⟨a, b, c, d, e, f, g, i, rfl⟩ := eight l h
  exact be8_num ..
theorem num_lt' (l : List UInt8) (h : l.length = 8) : num l < 18446744073709551616 := by
  obtain ⟨a, b, c, d, e, f, g, i, rfl⟩ := eight l h
  exact num_lt ..
def bytesV : List Nat → List UInt8
  | [] => []
  | n :: l => be8 n ++ bytesV l
theorem bytesV_len : ∀ L : List Nat, (bytesV L).length = L.length * 8
  | [] => rfl
  | n :: l => by rw [bytesV, List.length_append, bytesV_len l, be8_len, List.length_cons]; omega
theorem bytesV_app : ∀ L M : List Nat, bytesV (L ++ M) = bytesV L ++ bytesV M
  | [], _ => rfl
  | n :: l, M => by rw [List.cons_append, bytesV, bytesV_app l M, bytesV, List.append_assoc]
/-- the vector whose bytes these are. -/
def ofV (bs : List UInt8) : Nat → List Nat
  | 0 => []
  | k + 1 => num (bs.take 8) :: ofV (bs.drop 8) k
theorem ofV_len : ∀ k bs, (ofV bs k).length = k
  | 0, _ => rfl
  | k + 1, bs => by rw [ofV, List.length_cons, ofV_len k]
theorem ofV_bytes : ∀ L : List Nat, (∀ n ∈ L, n < 18446744073709551616) → ofV (bytesV L) L.length = L
  | [], _ => rfl
  | n :: l, h => by
    rw [bytesV, List.length_cons, ofV, List.take_left' (be8_len n), List.drop_left' (be8_len n), ofV_bytes l (fun m hm => h m (List.mem_cons_of_mem _ hm)), num_be8 n (h n (List.mem_cons_self ..))]
theorem bytes_ofV : ∀ k bs, bs.length = k * 8 → bytesV (ofV bs k) = bs
  | 0, bs, h => by
    have : bs = [] := List.eq_nil_of_length_eq_zero (by omega)
    subst this; rfl
  | k + 1, bs, h => by
    rw [ofV, bytesV, bytes_ofV k _ (by rw [List.length_drop]; omega), be8_num' _ (by rw [List.length_take]; omega), List.take_append_drop]
theorem ofV_lt : ∀ k bs, bs.length = k * 8 → ∀ n ∈ ofV bs k, n < 18446744073709551616
  | 0, bs, _ => by intro n hn; cases hn
  | k + 1, bs, h => by
    intro n hn
    rcases List.mem_cons.1 hn with rfl | hn
    · exact num_lt' _ (by rw [List.length_take]; omega)
    · exact ofV_lt k _ (by rw [List.length_drop]; omega) n hn
theorem be8_step (n j : Nat) (h : j < 8) : (be8 n).take (j + 1) = (be8 n).take j ++ [UInt8.ofNat (n / 2 ^ (56 - 8 * j) % 256)] := by
  match j, h with
  | 0, _ => rfl
  | 1, _ => rfl
  | 2, _ => rfl
  | 3, _ => rfl
  | 4, _ => rfl
  | 5, _ => rfl
  | 6, _ => rfl
  | 7, _ => simp [be8]
theorem bytesV_step (L : List Nat) (k : Nat) (h : k < L.length) : bytesV (L.take (k + 1)) = bytesV (L.take k) ++ be8 L[k] := by
  rw [List.take_succ_eq_append_getElem h, bytesV_app]; simp [bytesV]
/-- what stands in the numbers, i bytes being read. -/
def atV (bs : List UInt8) (i : Nat) : Nat → Nat → List Nat
  | _, 0 => []
  | p, k + 1 => num (((bs.take i).drop (8 * p)).take 8) :: atV bs i (p + 1) k
theorem atV_len (bs : List UInt8) (i : Nat) : ∀ k p, (atV bs i p k).length = k
  | 0, _ => rfl
  | k + 1, p => by rw [atV, List.length_cons, atV_len bs i k]
theorem atV_get (bs : List UInt8) (i : Nat) : ∀ k p j (h : j < k), (atV bs i p k)[j]'(by rw [atV_len]; exact h) = num (((bs.take i).drop (8 * (p + j))).take 8)
  | 0, _, _, h => by omega
  | k + 1, p, 0, _ => rfl
  | k + 1, p, j + 1, h => by
    have := atV_get bs i k (p + 1) j (by omega)
    simp only [atV, List.getElem_cons_succ, this]
    rw [show p + 1 + j = p + (j + 1) by omega]
theorem num_snoc (l : List UInt8) (c : UInt8) : num (l ++ [c]) = num l * 256 + c.toNat := by simp [num, List.foldl_append]
theorem fold_short : ∀ (l : List UInt8) (a b : Nat), a < b → l.foldl (fun a c => a * 256 + c.toNat) a < b * 256 ^ l.length
  | [], a, b, h => by simpa using h
  | c :: l, a, b, h => by
    have hc := c.toNat_lt
    have := fold_short l (a * 256 + c.toNat) (b * 256) (by omega)
    rw [List.foldl_cons, List.length_cons, Nat.pow_succ, Nat.mul_comm (256 ^ l.length) 256, ← Nat.mul_assoc]
    exact this
theorem num_small (l : List UInt8) (h : l.length < 8) : num l < 72057594037927936 := by
  have h1 := fold_short l 0 1 (by omega)
  have h2 : 256 ^ l.length ≤ 256 ^ 7 := Nat.pow_le_pow_right (by omega) (by omega)
  unfold num
  omega
theorem or_byte (a c : Nat) (hc : c < 256) : a * 256 ||| c = a * 256 + c := by
  have := Nat.two_pow_add_eq_or_of_lt (i := 8) (b := c) (by omega) a
  rw [show a * 256 = 2 ^ 8 * a by omega]
  exact this.symm
/-- a byte more. -/
theorem atV_cell (bs : List UInt8) (i : Nat) (hi : i < bs.length) (h : i < 48) (hq : i / 8 < (atV bs i 0 6).length) :
    (atV bs i 0 6)[i / 8]'hq < 72057594037927936 ∧ (atV bs i 0 6).set (i / 8) ((atV bs i 0 6)[i / 8]'hq * 256 + bs[i].toNat) = atV bs (i + 1) 0 6 := by
  have hp : i / 8 < 6 := by omega
  have e := atV_get bs i 6 0 (i / 8) hp
  rw [Nat.zero_add] at e
  have hlen : ((bs.take i).drop (8 * (i / 8))).length = i % 8 := by rw [List.length_drop, List.length_take]; omega
  have e8 : ((bs.take i).drop (8 * (i / 8))).take 8 = (bs.take i).drop (8 * (i / 8)) := List.take_of_length_le (by omega)
  refine ⟨by rw [e, e8]; exact num_small _ (by omega), ?_⟩
  refine List.ext_getElem (by rw [List.length_set, atV_len, atV_len]) fun j h1 h2 => ?_
  rw [List.length_set, atV_len] at h1
  have e1 := atV_get bs (i + 1) 6 0 j h1
  rw [Nat.zero_add] at e1
  rw [e1, List.getElem_set]
  have ht : bs.take (i + 1) = bs.take i ++ [bs[i]] := List.take_succ_eq_append_getElem hi
  have hl : (bs.take i).length = i := by rw [List.length_take]; omega
  have hl1 : (bs.take (i + 1)).length = i + 1 := by rw [List.length_take]; omega
  by_cases hj : i / 8 = j
  · subst hj
    have hd : (bs.take (i + 1)).drop (8 * (i / 8)) = (bs.take i).drop (8 * (i / 8)) ++ [bs[i]] := by
      rw [ht, List.drop_append_of_le_length (by rw [hl]; omega)]
    have h8 : ((bs.take i).drop (8 * (i / 8)) ++ [bs[i]]).take 8 = (bs.take i).drop (8 * (i / 8)) ++ [bs[i]] :=
      List.take_of_length_le (by rw [List.length_append, hlen, List.length_singleton]; omega)
    rw [if_pos rfl, e, e8, hd, ← num_snoc, h8]
  · rw [if_neg hj]
    have e2 := atV_get bs i 6 0 j h1
    rw [Nat.zero_add] at e2
    rw [e2]
    by_cases hlt : j < i / 8
    · have hd : (bs.take (i + 1)).drop (8 * j) = (bs.take i).drop (8 * j) ++ [bs[i]] := by
        rw [ht, List.drop_append_of_le_length (by rw [hl]; omega)]
      have hl2 : ((bs.take i).drop (8 * j)).length = i - 8 * j := by rw [List.length_drop, hl]
      rw [hd, List.take_append_of_le_length (by rw [hl2]; omega)]
    · rw [(List.drop_eq_nil_of_le (by rw [hl1]; omega) : (bs.take (i + 1)).drop (8 * j) = []), (List.drop_eq_nil_of_le (by rw [hl]; omega) : (bs.take i).drop (8 * j) = [])]
theorem atV_zero (bs : List UInt8) : atV bs 0 0 6 = List.replicate 6 0 := by simp [atV, num, List.replicate]
theorem atV_all (bs : List UInt8) : ∀ k p, atV bs bs.length p k = ofV (bs.drop (8 * p)) k
  | 0, _ => rfl
  | k + 1, p => by
    rw [atV, atV_all bs k (p + 1), ofV, List.take_length, List.drop_drop]
    rw [show 8 * (p + 1) = 8 * p + 8 by omega]
theorem atV_done (bs : List UInt8) (i : Nat) (h : i = bs.length) : atV bs i 0 6 = ofV bs 6 := by
  subst h
  rw [atV_all]; simp
end Go.Proofs.Ytjihbjjekhncaaa
