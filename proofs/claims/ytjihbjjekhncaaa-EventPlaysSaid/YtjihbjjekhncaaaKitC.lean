/- Rows of bytes of the call's own that are written in place: small laws of the seat's own. -/
import Derived.Test.YtjihbjjekhncaaaKitB
namespace Go.Proofs.Ytjihbjjekhncaaa
open Go.RowKit

/-- a block of bytes of which the first are these. -/
def Row (w : World) (g : Nat) (e : TypeId) (bs : List UInt8) : Prop := ∃ cur : Array Value, Blk w g e cur ∧ bs.length ≤ cur.size ∧ cur.toList.take bs.length = bv bs
section
variable {w w' : World} {g : Nat} {e : TypeId} {bs : List UInt8}
theorem Row.lt (h : Row w g e bs) : g < w.heap.size := by obtain ⟨cur, hb, _⟩ := h; exact hb.lt
theorem Row.cell (h : Row w g e bs) {k : Nat} (hk : k < bs.length) : w.cell? ⟨g, k, none⟩ = some (.int .u8 (bs[k].toNat : Int)) := by
  obtain ⟨cur, hb, hl, ht⟩ := h
  rw [hb.cell]
  have h1 : (cur.toList.take bs.length)[k]? = some (.int .u8 (bs[k].toNat : Int)) := by rw [ht]; exact bv_at bs k hk
  rw [List.getElem?_take, if_pos hk] at h1
  simpa using h1
theorem Row.frozen (h : Row w g e bs) (k : Nat) : w.frozen? ⟨g, k, none⟩ = false := by obtain ⟨cur, hb, _⟩ := h; exact hb.frozen k
theorem Row.set_ (h : Row w g e bs) {k : Nat} (hk : k < bs.length) (c : UInt8) (v : Value) (hv : v = .int .u8 (c.toNat : Int)) : Row (w.setCell ⟨g, k, none⟩ v) g e (bs.set k c) := by
  obtain ⟨cur, hb, hl, ht⟩ := h
  subst hv
  refine ⟨_, hb.set_ k _, by simpa using hl, ?_⟩
  rw [Array.toList_setIfInBounds, List.length_set, List.take_set, ht]
  simp [bv, List.map_set]
theorem Row.far (h : Row w g e bs) {p : Addr} (hp : g ≠ p.block) (v : Value) : Row (w.setCell p v) g e bs := by
  obtain ⟨cur, hb, hl, ht⟩ := h; exact ⟨cur, hb.far hp v, hl, ht⟩
theorem Row.drew (h : Row w g e bs) : Row w.drew g e bs := h
theorem Row.alloc (h : Row w g e bs) (o : Obj) : Row (w.alloc o) g e bs := by
  obtain ⟨cur, hb, hl, ht⟩ := h; exact ⟨cur, hb.alloc o, hl, ht⟩
theorem Row.below {B : Nat} (h : Row w g e bs) (hb : Below B w w') (hg : g < B) : Row w' g e bs := by
  obtain ⟨cur, hc, hl, ht⟩ := h; exact ⟨cur, hc.below hb hg, hl, ht⟩
theorem Row.bytes (h : Row w g e bs) : Bytes w w.heap.size (some ⟨g, 0, none⟩) bs := by
  refine ⟨by rw [bv_len, Nat.mul_one], fun _ => ⟨_, rfl, h.lt, fun j u hu => ?_⟩⟩
  have hj : j < bs.length := by
    rcases Nat.lt_or_ge j bs.length with h' | h'
    · exact h'
    · rw [List.getElem?_eq_none (by rw [bv_len]; exact h')] at hu; cases hu
  have hadd : (⟨g, 0, none⟩ : Addr).add j = ⟨g, j, none⟩ := by unfold Addr.add; split <;> simp_all
  rw [hadd, h.cell hj, ← bv_at bs j hj, hu]
end
/-- such a row, between two bounds, where there is a byte at all. -/
def RowO (w : World) (lo hi : Nat) (e : TypeId) (A : Option Addr) (bs : List UInt8) : Prop := 0 < bs.length → ∃ g, A = some ⟨g, 0, none⟩ ∧ lo ≤ g ∧ g < hi ∧ Row w g e bs
theorem OwnB.rowO {w : World} {base : Nat} {e : TypeId} {A : Option Addr} {n c : Nat} {bs : List UInt8} (h : OwnB w base e (.slice A n c) bs) : RowO w base w.heap.size e A bs := by
  intro h0
  rcases h.2 with ⟨_, hn⟩ | ⟨g, cap, cur, hv, hg, hh, hc, hm, hz, ht⟩
  · omega
  · injection hv with hA _ _
    subst hA
    have hr : Row w g e bs := ⟨cur, hh, by omega, by simpa using ht⟩
    exact ⟨g, rfl, hg, hr.lt, hr⟩
theorem RowO.below {w w' : World} {lo hi B : Nat} {e : TypeId} {A : Option Addr} {bs : List UInt8} (h : RowO w lo hi e A bs) (hb : Below B w w') (hB : hi ≤ B) : RowO w' lo hi e A bs := by
  intro h0
  obtain ⟨g, hA, h1, h2, h3⟩ := h h0
  exact ⟨g, hA, h1, h2, h3.below hb (by omega)⟩
theorem RowO.bytes {w : World} {lo hi : Nat} {e : TypeId} {A : Option Addr} {bs : List UInt8} (h : RowO w lo hi e A bs) : Bytes w w.heap.size A bs := by
  refine ⟨by rw [bv_len, Nat.mul_one], fun h0 => ?_⟩
  obtain ⟨g, hA, _, _, hr⟩ := h h0
  subst hA
  exact hr.bytes.2 h0

/-- the first k of one list, the rest of another. -/
def mix (k : Nat) (xs ys : List UInt8) : List UInt8 := xs.take k ++ ys.drop k
theorem mix_zero (xs ys : List UInt8) : mix 0 xs ys = ys := by simp [mix]
theorem mix_all (xs ys : List UInt8) (h : xs.length = ys.length) : mix ys.length xs ys = xs := by
  unfold mix
  rw [List.take_of_length_le (by omega), List.drop_length, List.append_nil]
theorem mix_len (k : Nat) (xs ys : List UInt8) (h : xs.length = ys.length) (hk : k ≤ ys.length) : (mix k xs ys).length = ys.length := by
  unfold mix
  rw [List.length_append, List.length_take, List.length_drop]; omega
theorem mix_at (k : Nat) (xs ys : List UInt8) (h : xs.length = ys.length) (hk : k < ys.length) : (mix k xs ys)[k]? = some ys[k] := by
  have e : (xs.take k).length = k := by rw [List.length_take]; omega
  unfold mix
  rw [List.getElem?_append_right (by omega), e, Nat.sub_self, List.getElem?_drop, Nat.add_zero, List.getElem?_eq_getElem hk]
theorem mix_set (k : Nat) (xs ys : List UInt8) (h : xs.length = ys.length) (hk : k < ys.length) (c : UInt8) (hc : xs[k]? = some c) : (mix k xs ys).set k c = mix (k + 1) xs ys := by
  have e : (xs.take k).length = k := by rw [List.length_take]; omega
  have hx : k < xs.length := by omega
  rw [List.getElem?_eq_getElem hx] at hc
  injection hc with hc
  unfold mix
  rw [List.set_append, if_neg (by omega), e, Nat.sub_self, List.drop_eq_getElem_cons hk, List.set_cons_zero, List.take_succ_eq_append_getElem hx, hc, List.append_assoc]
  rfl
theorem mix_same (k : Nat) (xs ys : List UInt8) (h : xs.length = ys.length) (hk : k < ys.length) (hc : xs[k]? = some ys[k]) : mix k xs ys = mix (k + 1) xs ys := by
  rw [← mix_set k xs ys h hk ys[k] hc]
  apply List.ext_getElem?
  intro i
  rw [List.getElem?_set]
  by_cases e : k = i
  · subst e
    rw [if_pos rfl, if_pos (by rw [mix_len k xs ys h (by omega)]; exact hk)]
    exact mix_at k xs ys h hk
  · rw [if_neg e]
theorem Row.cellAt {w : World} {g : Nat} {e : TypeId} {bs : List UInt8} (h : Row w g e bs) {k : Nat} {c : UInt8} (hk : bs[k]? = some c) : w.cell? ⟨g, k, none⟩ = some (.int .u8 (c.toNat : Int)) := by
  have hl : k < bs.length := by
    rcases Nat.lt_or_ge k bs.length with h' | h'
    · exact h'
    · rw [List.getElem?_eq_none h'] at hk; cases hk
  rw [List.getElem?_eq_getElem hl] at hk
  injection hk with hk
  rw [h.cell hl, hk]
end Go.Proofs.Ytjihbjjekhncaaa
