import Derived.Test.YtdliklkfhakmhaaVeil
import Derived.Maps.AppendAt
namespace Go.Proofs.Ytdliklkfhakmhaa
open Go.RowKit
/-! vectors in the midst of a block; slices of vectors that a call appends to. -/
theorem run_loadV_mid {W : World} {b o : Nat} {L : List Nat} (hL : L.length = 6) (h : W.rangeAt b o (vecL L)) : (loadV (.pointer (some ⟨b, o, none⟩))).run Try.prog W = .ok (.agg (vecA L)) W :=
  vecs_load hL h
theorem run_storeV_mid {W : World} {b o : Nat} {L : List Nat} (hL : L.length = 6) (h : W.there b o 6) : (storeV (.pointer (some ⟨b, o, none⟩)) (.agg (vecA L))).run Try.prog W = .ok () (W.setCells b o (vecL L)) := by
  have := run_storeAt_mid (P := Try.prog) W b o 24 (vecA L) (by rw [vecA_size, hL]; exact h) (infoV_of L hL) (vecA_one L)
  exact this
/-- cells written one behind the other. -/
def setSeq (C : Array Value) : Nat → List Value → Array Value
  | _, [] => C
  | o, v :: r => setSeq (C.setIfInBounds o v) (o + 1) r
theorem Blk.cells {W : World} {g : Nat} {t : TypeId} : ∀ (vs : List Value) (C : Array Value) (o : Nat) (W : World), Blk W g t C → Blk (W.setCells g o vs) g t (setSeq C o vs)
  | [], _, _, _, h => h
  | v :: r, C, o, W, h => Blk.cells (W := W) r _ (o + 1) _ (h.set_ o v)
theorem Blk.cellsFar {W : World} {g k : Nat} {t : TypeId} {C : Array Value} (hk : g ≠ k) : ∀ (vs : List Value) (o : Nat) (W : World), Blk W g t C → Blk (W.setCells k o vs) g t C
  | [], _, _, h => h
  | v :: r, o, W, h => Blk.cellsFar (W := W) hk r (o + 1) _ (h.far (p := ⟨k, o, none⟩) hk v)
theorem below_setCells {B : Nat} {w : World} {k : Nat} (hk : B ≤ k) : ∀ (vs : List Value) (o : Nat) (W : World), Below B w W → Below B w (W.setCells k o vs)
  | [], _, _, h => h
  | v :: r, o, W, h => below_setCells hk r (o + 1) _ (h.setCell (p := ⟨k, o, none⟩) hk v)
/-- six vectors, one behind the other. -/
def peersA (K : List (List Nat)) : Array Value := (K.flatMap vecL).toArray
structure Six6 (K : List (List Nat)) : Prop where
  six : K.length = 6
  each : ∀ v ∈ K, v.length = 6
theorem six6 {K : List (List Nat)} (h : Six6 K) : ∃ a b c d e f, K = [a, b, c, d, e, f] := by
  obtain ⟨h1, _⟩ := h
  match K, h1 with
  | [a, b, c, d, e, f], _ => exact ⟨a, b, c, d, e, f, rfl⟩
theorem Six6.set_ {K : List (List Nat)} (h : Six6 K) {j : Nat} {L : List Nat} (hL : L.length = 6) : Six6 (K.set j L) :=
  ⟨by rw [List.length_set]; exact h.six, fun v hv => by
    rcases List.mem_or_eq_of_mem_set hv with h' | h'
    · exact h.each v h'
    · rw [h']; exact hL⟩
theorem peers_at {K : List (List Nat)} (h : Six6 K) (j : Nat) (hj : j < 6) (r : Nat) (hr : r < 6) (L : List Nat) (hL : K[j]? = some L) : (peersA K)[j * 6 + r]? = (vecL L)[r]? := by
  obtain ⟨a, b, c, d, e, f, rfl⟩ := six6 h
  have ha := six (h.each a (by simp)); have hb := six (h.each b (by simp)); have hc := six (h.each c (by simp))
  have hd := six (h.each d (by simp)); have he := six (h.each e (by simp)); have hf := six (h.each f (by simp))
  obtain ⟨_, _, _, _, _, _, rfl⟩ := ha; obtain ⟨_, _, _, _, _, _, rfl⟩ := hb; obtain ⟨_, _, _, _, _, _, rfl⟩ := hc
  obtain ⟨_, _, _, _, _, _, rfl⟩ := hd; obtain ⟨_, _, _, _, _, _, rfl⟩ := he; obtain ⟨_, _, _, _, _, _, rfl⟩ := hf
  match j, hj with
  | 0, _ | 1, _ | 2, _ | 3, _ | 4, _ | 5, _ =>
    injection hL with hL
    subst hL
    match r, hr with
    | 0, _ | 1, _ | 2, _ | 3, _ | 4, _ | 5, _ => rfl
theorem peers_set {K : List (List Nat)} (h : Six6 K) (j : Nat) (hj : j < 6) (L : List Nat) (hL : L.length = 6) : setSeq (peersA K) (j * 6) (vecL L) = peersA (K.set j L) := by
  obtain ⟨a, b, c, d, e, f, rfl⟩ := six6 h
  have ha := six (h.each a (by simp)); have hb := six (h.each b (by simp)); have hc := six (h.each c (by simp))
  have hd := six (h.each d (by simp)); have he := six (h.each e (by simp)); have hf := six (h.each f (by simp))
  obtain ⟨_, _, _, _, _, _, rfl⟩ := ha; obtain ⟨_, _, _, _, _, _, rfl⟩ := hb; obtain ⟨_, _, _, _, _, _, rfl⟩ := hc
  obtain ⟨_, _, _, _, _, _, rfl⟩ := hd; obtain ⟨_, _, _, _, _, _, rfl⟩ := he; obtain ⟨_, _, _, _, _, _, rfl⟩ := hf
  obtain ⟨_, _, _, _, _, _, rfl⟩ := six hL
  rcases (by omega : j = 0 ∨ j = 1 ∨ j = 2 ∨ j = 3 ∨ j = 4 ∨ j = 5) with rfl | rfl | rfl | rfl | rfl | rfl <;> (show _ = _; kernel_rfl)
theorem peers_size {K : List (List Nat)} (h : Six6 K) : (peersA K).size = 36 := by
  obtain ⟨a, b, c, d, e, f, rfl⟩ := six6 h
  have ha := h.each a (by simp); have hb := h.each b (by simp); have hc := h.each c (by simp)
  have hd := h.each d (by simp); have he := h.each e (by simp); have hf := h.each f (by simp)
  simp [peersA, vecL, ha, hb, hc, hd, he, hf]
theorem peers_range {W : World} {g : Nat} {t : TypeId} {K : List (List Nat)} (h : Six6 K) (hB : Blk W g t (peersA K)) (j : Nat) (hj : j < 6) (L : List Nat) (hL : K[j]? = some L) : W.rangeAt g (j * 6) (vecL L) := fun r v hv => by
  have hr : r < 6 := by
    have h6 := h.each L (List.mem_of_getElem? hL)
    rcases Nat.lt_or_ge r (vecL L).length with h' | h'
    · rw [vecL_len, h6] at h'; exact h'
    · rw [List.getElem?_eq_none h'] at hv; cases hv
  rw [hB.cell, peers_at h j hj r hr L hL]; exact hv
theorem peers_there {W : World} {g : Nat} {t : TypeId} {K : List (List Nat)} (h : Six6 K) (hB : Blk W g t (peersA K)) (j : Nat) (hj : j < 6) : W.there g (j * 6) 6 := fun r hr => by
  refine ⟨?_, hB.frozen _⟩
  rw [hB.cell]
  rw [Array.getElem?_eq_getElem (by rw [peers_size h]; omega)]
  rfl
/-- a slice of vectors of the call's own. -/
def OwnV (w : World) (base : Nat) (v : Value) (l : List (List Nat)) : Prop := w.ownsRow base 24 6 v l.length (l.flatMap vecL)
theorem OwnV.nil_ (w : World) (base : Nat) : OwnV w base (.slice none 0 0) [] := World.ownsRow_nil w base 24 6
theorem vecL_one (L : List Nat) : ∀ u ∈ vecL L, u.oneCell' = true := by
  intro u hu
  obtain ⟨n, _, rfl⟩ := List.mem_map.1 hu
  rfl
theorem flat_at : ∀ (l : List (List Nat)), (∀ v ∈ l, v.length = 6) → ∀ (i : Nat) (L : List Nat) (r : Nat), l[i]? = some L → r < 6 → (l.flatMap vecL)[i * 6 + r]? = (vecL L)[r]?
  | [], _, i, L, r, h, _ => by simp at h
  | a :: l, hs, 0, L, r, h, hr => by
    injection h with h; subst h
    rw [List.flatMap_cons, List.getElem?_append_left (by rw [vecL_len, hs a (by simp)]; omega), Nat.zero_mul, Nat.zero_add]
  | a :: l, hs, i + 1, L, r, h, hr => by
    have ha : (vecL a).length = 6 := by rw [vecL_len, hs a (by simp)]
    rw [List.flatMap_cons, List.getElem?_append_right (by omega), ha, show (i + 1) * 6 + r - 6 = i * 6 + r by omega]
    exact flat_at l (fun v hv => hs v (by simp [hv])) i L r (by simpa using h) hr
theorem OwnV.open_ {w : World} {base : Nat} {v : Value} {l : List (List Nat)} (h : OwnV w base v l) (hs : ∀ v ∈ l, v.length = 6) : ∃ A c, v = .slice A l.length c ∧ Vecs w w.heap.size A l ∧ l.length ≤ maxLen := by
  rcases h.2 with ⟨hv, hn⟩ | ⟨g, cap, cur, hv, hg, hh, hc, hm, hz, ht⟩
  · exact ⟨none, 0, by rw [hv, hn], fun h0 => by omega, by rw [hn]; decide⟩
  · refine ⟨some ⟨g, 0, none⟩, cap, hv, fun _ => ⟨g, 0, rfl, ?_, fun i L hi => ⟨hs L (List.mem_of_getElem? hi), fun j u hu => ?_⟩⟩, by omega⟩
    · rcases Nat.lt_or_ge g w.heap.size with h' | h'
      · exact h'
      · rw [Array.getElem?_eq_none h'] at hh; cases hh
    · have hj : j < 6 := by
        have h6 := hs L (List.mem_of_getElem? hi)
        rcases Nat.lt_or_ge j (vecL L).length with h' | h'
        · rw [vecL_len, h6] at h'; exact h'
        · rw [List.getElem?_eq_none h'] at hu; cases hu
      rw [Nat.zero_add, cell_of_row w g (i * 6 + j) cur 24 (0, 0) hh]
      rw [← flat_at l hs i L j hi hj, ← ht, List.getElem?_take] at hu
      split at hu
      · simpa using hu
      · cases hu
theorem OwnV.below {w w' : World} {base : Nat} {v : Value} {l : List (List Nat)} (h : OwnV w base v l) (hb : Below w.heap.size w w') : OwnV w' base v l := by
  refine ⟨h.1, ?_⟩
  rcases h.2 with h0 | ⟨g, cap, cur, hv, hg, hh, hr⟩
  · exact .inl h0
  · refine .inr ⟨g, cap, cur, hv, hg, ?_, hr⟩
    have hlt : g < w.heap.size := by
      rcases Nat.lt_or_ge g w.heap.size with h' | h'
      · exact h'
      · rw [Array.getElem?_eq_none h'] at hh; cases hh
    rw [hb.block g hlt]; exact hh
theorem infoVF : (Try.prog.info? 24).map (fun i => (i.zero, i.size, i.bytes)) = some (some (.agg (vecA Z6)), 6, 48) := by kernel_rfl
/-- one vector more, out of a block made for it. -/
theorem run_appV (w : World) (base : Nat) (v : Value) (l : List (List Nat)) (hown : OwnV w base v l) (L : List Nat) (hL : L.length = 6) (g : Nat) (hB : Blk w g 24 (vecL L).toArray) (c : Nat)
    (hlen : l.length + 1 ≤ 1099511627776) (hbase : base ≤ w.heap.size) (ty : TypeId) :
    ∃ v' w', (Builtin.append_ #[25, 25] ty #[v, .slice (some ⟨g, 0, none⟩) 1 c]).run Try.prog w = .ok v' w' ∧ OwnV w' base v' (l ++ [L]) ∧ w.grownBy w' v.ownBlock := by
  obtain ⟨i0, hi, hz0, hz1, hz2⟩ := info_parts infoVF
  obtain ⟨v', w', hrun, h2, h3, _, _⟩ := run_append_own_at (P := Try.prog) w base 25 ty 24 i0 (.agg (vecA Z6)) 6 48 Try.underlying25 hi hz0 hz1 hz2 rfl (by omega) v l.length (l.flatMap vecL) hown ⟨g, 0, none⟩ 1 c (vecL L)
    (by rw [vecL_len, hL]) (fun j u hu => by rw [Addr.add_mid, Nat.zero_add, hB.cell]; simpa using hu) (vecL_one L) (by unfold maxLen; omega) (by omega) hbase
  exact ⟨v', w', hrun, by unfold OwnV; rw [List.flatMap_append, List.length_append]; simpa using h2, h3⟩
theorem run_buildV1 {W : World} {L : List Nat} (hL : L.length = 6) :
    (buildV 1 #[(0, .agg (vecA L))]).run Try.prog W = .ok (.slice (some ⟨W.heap.size, 0, none⟩) 1 1) (W.alloc (.cells (vecL L).toArray 24)) := by
  obtain ⟨a, b, c, d, e, f, rfl⟩ := six hL
  kernel_rfl
end Go.Proofs.Ytdliklkfhakmhaa
