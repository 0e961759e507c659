import Derived.Test.YtjihbjjekhncaaaEvQ
import Derived.Test.YtjihbjjekhncaaaOcD
import Derived.Test.YtjihbjjekhncaaaEvO
namespace Go.Proofs.Ytjihbjjekhncaaa
open Go.RowKit
/-! event: a reader takes a number off its bytes. -/
theorem bytes_drop {w : World} {B b off : Nat} {bs : List UInt8} (h : Bytes w B (some ⟨b, off, none⟩) bs) (k : Nat) (hk : k ≤ bs.length) : Bytes w B (some ⟨b, off + k, none⟩) (bs.drop k) := by
  refine ⟨by rw [bv_len, Nat.mul_one], fun h0 => ⟨_, rfl, ?_, fun j u hu => ?_⟩⟩
  · obtain ⟨ad, h1, h2, _⟩ := h.2 (by simp at h0; omega)
    injection h1 with h1; subst h1; exact h2
  · obtain ⟨ad, h1, _, h3⟩ := h.2 (by simp at h0; omega)
    injection h1 with h1; subst h1
    have hj : (bv bs)[k + j]? = some u := by
      unfold bv at hu ⊢
      rw [List.map_drop, List.getElem?_drop] at hu; exact hu
    have := h3 (k + j) u hj
    rw [Addr.add_mid] at this ⊢
    rwa [Nat.add_assoc]
theorem bytes_take {w : World} {B : Nat} {A : Option Addr} {bs : List UInt8} (h : Bytes w B A bs) (k : Nat) (hk : k ≤ bs.length) : Bytes w B A (bs.take k) := by
  refine ⟨by rw [bv_len, Nat.mul_one], fun h0 => ?_⟩
  obtain ⟨ad, h1, h2, h3⟩ := h.2 (by simp at h0; omega)
  refine ⟨ad, h1, h2, fun j u hu => h3 j u ?_⟩
  unfold bv at hu ⊢
  rw [List.map_take, List.getElem?_take] at hu
  split at hu
  · exact hu
  · cases hu
set_option maxRecDepth 100000 in
theorem rtake_any (k : Nat) (hk : Size k) (W : World) (g B : Nat) (e : Ev) (d6 : e.d.length = 6) (b off n c : Nat) (bs : List UInt8) (h : Blk W g 76 (wrA e (some ⟨b, off, none⟩) n c)) (hb : Bytes W B (some ⟨b, off, none⟩) bs) (hBW : B ≤ W.heap.size) (hn : n = bs.length) (hkn : k ≤ n) (hnc : n ≤ c) (hl : n ≤ 1000) :
    Calls Try.prog 54 #[.pointer (some ⟨g, 0, none⟩), .int .i64 (k : Int)] W fun x w' => x = .returned (.int .u64 ((vl (bs.take k) : Nat) : Int)) ∧ ∃ o', w' = W.setCell ⟨g, 14, none⟩ (.slice (some ⟨b, o', none⟩) (n - k) (c - k)) ∧ Bytes W B (some ⟨b, o', none⟩) (bs.drop k) := by
  have BD := Lib.hid (bytes_drop hb k (by omega))
  have HN := Lib.hid hn
  have hk8 : k ≤ 8 := by rcases hk with rfl | rfl | rfl | rfl <;> omega
  have C := Lib.hid (take_ok k hk (some ⟨b, off, none⟩) n c bs 0 W (hb.more hBW) hn hnc (by unfold maxLen; omega) (by omega))
  have H := Lib.hid h
  have c14 := h.cell 14
  rw [wrA_at d6] at c14
  have ff := h.frozen 14
  have hadd : (⟨b, off, none⟩ : Addr).add k = ⟨b, off + k, none⟩ := Addr.add_mid b off k
  have hk0 : (0 : Int) ≤ (k : Int) := by omega
  have hkn2 : (k : Int) ≤ (n : Int) := by omega
  have hnc2 : (n : Int) ≤ (c : Int) := by omega
  have hle := Lib.hid hkn
  clear h hk hn hb hkn hnc hl hBW
  go_enter Try.func54, Try.ntmps54
  go_wp2_with fail
  refine C.out.mono ?_
  rintro _ w2 ⟨rfl, rfl⟩
  clear C
  by_cases hck : c = k
  · subst hck
    have hnk : n = c := by omega
    have hdr : Hid (bs.drop c = []) := List.drop_eq_nil_of_le (by have := HN.out; omega)
    go_wp2_with fail
    go_ret
    exact ⟨by simp, off, by simp [hnk], by rw [hdr.out]; exact ⟨by simp [bv], fun h => absurd h (by simp)⟩⟩
  · have hck2 : ¬ c - k = 0 := by omega
    go_wp2_with fail
    go_ret
    exact ⟨by simp, off + k, rfl, BD.out⟩
end Go.Proofs.Ytjihbjjekhncaaa
