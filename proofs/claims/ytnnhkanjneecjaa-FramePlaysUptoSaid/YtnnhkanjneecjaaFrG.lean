import Derived.Test.YtnnhkanjneecjaaFrF
import Derived.Test.YtnnhkanjneecjaaOctZ
namespace Go.Proofs.Ytnnhkanjneecjaa
open Go.RowKit
/-! a reader beside bytes that are written. -/
def AFrom (base : Nat) (A : Option Addr) : Prop := ∀ ad, A = some ad → base ≤ ad.block
theorem Reads.far {w : World} {B : Nat} {A : Option Addr} {bs : List UInt8} (h : Bytes w B A bs) {p : Addr} {base : Nat} (hp : p.block < base) (hA : AFrom base A) (u : Value) : Bytes (w.setCell p u) B A bs := by
  refine ⟨h.1, fun h0 => ?_⟩
  obtain ⟨ad, h1, h2, h3⟩ := h.2 h0
  refine ⟨ad, h1, h2, fun j v hv => ?_⟩
  have hne : (ad.add j).block ≠ p.block := by rw [block_of_add]; have := hA ad h1; omega
  have := h3 j v hv
  unfold World.cell? at this ⊢
  rw [Below.heap_setCell w p u _ hne]
  exact this
theorem RD.far {w : World} {base g : Nat} {A : Option Addr} {c : Nat} {bs : List UInt8} {a : Nat} (h : RD w base g A c bs a) (hA : AFrom base A) {p : Addr} (hp : p.block < base) (u : Value) : RD (w.setCell p u) base g A c bs a :=
  ⟨h.1.far (by have := h.2.2.2.2.1; omega) u, Reads.far h.2.1 hp hA u, h.2.2⟩
theorem new2_any (A : Option Addr) (n c : Nat) (bs : List UInt8) (w : World) (hb : Bytes w w.heap.size A bs) (hn : n = bs.length) (hl : bs.length ≤ 1099511627776) :
    Calls Try.prog 40 #[.slice A n c] w fun e w' => ∃ g A' c', e = .returned (.pointer (some ⟨g, 0, none⟩)) ∧ RD w' w.heap.size g A' c' bs 0 ∧ AFrom w.heap.size A' ∧ Below w.heap.size w w' := by
  subst hn
  go_enter Try.func40, Try.ntmps40
  go_wp2_with (at_builtin; refine wpList_ap2 rfl _ _ rfl rfl w.heap.size (.slice (some ⟨w.heap.size, 0, none⟩) 0 0) [] bs bs w.heap.size A bs.length c rfl rfl rfl rfl (OwnB.made w _ 5 (Nat.le_refl _)) (Reads.alloc hb (Nat.le_refl _) _) (by simp; omega) w ((Below.refl _ _).alloc (Nat.le_refl _) _) (by simp) ?_; intro A3 c3 n3 W3 e3 h3 hB3 hl3 hbel3 hs3 hg3; clear hB3 hg3 hl3)
  go_ret
  have hA : AFrom w.heap.size A3 := by
    intro ad had
    rcases h3.2 with ⟨hv, _⟩ | ⟨g, cap, cur, hv, hg, _⟩
    · injection hv with h1 _ _; rw [had] at h1; cases h1
    · injection hv with h1 _ _; rw [had] at h1; injection h1 with h1; rw [h1]; exact hg
  obtain ⟨x1, x2, x3, x4⟩ := own_open h3
  subst x4
  exact ⟨W3.heap.size, A3, c3, rfl, ⟨Blk.new W3 _ _, Reads.alloc x1 (Nat.le_refl _) _, x2, x3, hs3, by omega⟩, hA, hbel3.alloc hs3 _⟩
theorem fal_len (bs : List UInt8) (f a : Nat) (acc : List (List UInt8)) : acc.length ≤ (fal bs f a acc).1.length := by
  obtain ⟨⟨m, hm⟩, _⟩ := fal_ext bs f a acc
  rw [hm, List.length_append]; omega
theorem FalAt.next {bs : List UInt8} {a : Nat} {acc : List (List UInt8)} (h : FalAt bs a acc) (ha : a ≤ bs.length) (hlt : acc.length < (falR bs).1.length) :
    fok bs a ∧ (falR bs).1[acc.length]? = some (recAt bs a) ∧ FalAt bs (fnx bs a) (acc ++ [recAt bs a]) ∧ fnx bs a ≤ bs.length := by
  obtain ⟨f, hf, hl⟩ := h
  obtain ⟨f, rfl⟩ : ∃ k, f = k + 1 := ⟨f - 1, by omega⟩
  by_cases hok : fok bs a
  · rw [fal, if_pos hok] at hf
    obtain ⟨⟨m, hm⟩, _⟩ := fal_ext bs f (fnx bs a) (acc ++ [recAt bs a])
    refine ⟨hok, ?_, ⟨f, hf, by unfold fnx; omega⟩, hok.1⟩
    rw [← hf, hm, List.append_assoc, List.getElem?_append_right (Nat.le_refl _), Nat.sub_self]
    rfl
  · rw [fal, if_neg hok] at hf
    rw [← hf] at hlt
    exact absurd hlt (Nat.lt_irrefl _)
theorem FalAt.stop {bs : List UInt8} {a : Nat} {acc : List (List UInt8)} (h : FalAt bs a acc) (ha : a ≤ bs.length) (hlen : acc.length = (falR bs).1.length) : ¬ fok bs a ∧ (falR bs).2 = a := by
  obtain ⟨f, hf, hl⟩ := h
  obtain ⟨f, rfl⟩ : ∃ k, f = k + 1 := ⟨f - 1, by omega⟩
  by_cases hok : fok bs a
  · rw [fal, if_pos hok] at hf
    have := fal_len bs f (fnx bs a) (acc ++ [recAt bs a])
    rw [hf, List.length_append, List.length_singleton] at this
    omega
  · rw [fal, if_neg hok] at hf
    exact ⟨hok, by rw [← hf]⟩
theorem val_one (b : UInt8) : Value.int .u8 (bits .xor .u8 (b.toNat : Int) 1) = .int .u8 ((b ^^^ 1).toNat : Int) := val_xor b 1
end Go.Proofs.Ytnnhkanjneecjaa
