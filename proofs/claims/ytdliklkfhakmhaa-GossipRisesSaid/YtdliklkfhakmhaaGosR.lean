import Derived.Test.YtdliklkfhakmhaaGosW
import Derived.Test.YtdliklkfhakmhaaNumO
import Derived.Test.YtdliklkfhakmhaaVecO
import Derived.Test.YtdliklkfhakmhaaLatMath
import Derived.BigRegion
import Derived.BigQuiet
namespace Go.Proofs.Ytdliklkfhakmhaa
open Go.RowKit
/-! steps that came in: a number and a vector each. -/
def K7 : List (Option IntKind) := some .i64 :: K6
theorem flat7 : flatOK Try.prog 4 53 K7 = true := by kernel_rfl
theorem step_cells {cs : List Value} (h : Kinded K7 cs) : ∃ (z : Int) (L : List Nat), cs = .int .i64 z :: vecL L ∧ (Lit.int .i64 z).wf = true ∧ L.length = 6 ∧ ∀ x ∈ L, x ≤ 18446744073709551615 := by
  match cs, h with
  | [], h => have := h.1; simp [K7, K6] at this
  | c :: cs, h =>
    obtain ⟨z, rfl, hw⟩ := h.2 0 (some .i64) c rfl rfl
    obtain ⟨L, rfl, hl, hb⟩ := vec_cells 6 cs ⟨by have := h.1; simpa [K7, K6] using this, fun p k v hk hv => h.2 (p + 1) k v (by rw [K7, List.getElem?_cons_succ]; exact hk) (by simpa using hv)⟩
    exact ⟨z, L, rfl, hw, hl, hb⟩
def Steps (w : World) (B : Nat) (A : Option Addr) (l : List (Int × List Nat)) : Prop :=
  0 < l.length → ∃ b off, A = some ⟨b, off, none⟩ ∧ b < B ∧ ∀ i (p : Int × List Nat), l[i]? = some p → p.2.length = 6 ∧ w.rangeAt b (off + i * 7) (.int .i64 p.1 :: vecL p.2)
theorem Steps.below {w w' : World} {B : Nat} {A : Option Addr} {l : List (Int × List Nat)} (h : Steps w B A l) (hb : Below B w w') : Steps w' B A l := fun h0 => by
  obtain ⟨b, off, hA, hB, hc⟩ := h h0
  refine ⟨b, off, hA, hB, fun i p hi => ⟨(hc i p hi).1, fun j v hj => ?_⟩⟩
  exact (hb.cell (p := ⟨b, off + i * 7 + j, none⟩) hB).trans ((hc i p hi).2 j v hj)
theorem steps_cells (w : World) (b off : Nat) : ∀ n, (∀ i, i < n → ∃ cs, Kinded K7 cs ∧ ∀ (j : Nat) (v : Value), cs[j]? = some v → w.cell? ⟨b, off + (i * 7 + j), none⟩ = some v) →
    ∃ l : List (Int × List Nat), l.length = n ∧ (∀ p ∈ l, (Lit.int .i64 p.1).wf = true ∧ p.2.length = 6 ∧ ∀ x ∈ p.2, x ≤ 18446744073709551615) ∧ ∀ i (p : Int × List Nat), l[i]? = some p → p.2.length = 6 ∧ w.rangeAt b (off + i * 7) (.int .i64 p.1 :: vecL p.2)
  | 0, _ => ⟨[], rfl, (fun L h => by cases h), (fun i L h => by simp at h)⟩
  | n + 1, h => by
    obtain ⟨l, h1, h2, h3⟩ := steps_cells w b off n (fun i hi => h i (by omega))
    obtain ⟨cs, hk, hc⟩ := h n (by omega)
    obtain ⟨z, L, rfl, hw, hl, hb⟩ := step_cells hk
    refine ⟨l ++ [(z, L)], by simp [h1], fun M hM => ?_, fun i M hi => ?_⟩
    · rcases List.mem_append.1 hM with hM | hM
      · exact h2 M hM
      · rw [List.mem_singleton.1 hM]; exact ⟨hw, hl, hb⟩
    · rcases Nat.lt_or_ge i n with hin | hin
      · rw [List.getElem?_append_left (by omega)] at hi
        exact h3 i M hi
      · rw [List.getElem?_append_right (by omega)] at hi
        have : i - l.length = 0 := by
          rcases Nat.eq_zero_or_pos (i - l.length) with h | h
          · exact h
          · rw [List.getElem?_eq_none (by simp; omega)] at hi; cases hi
        rw [this] at hi
        injection hi with hi
        subst hi
        obtain rfl : i = n := by omega
        refine ⟨hl, fun j v hj => ?_⟩
        rw [Nat.add_assoc]
        exact hc j v hj
set_option maxRecDepth 100000 in
theorem open_steps {H : Type} {enc : TypeId × Value → H} {w : World} {sp : Nat → Bool} {held : Bool} {A : Option Addr} {len cap : Nat} {dd : DataW H} {ps : List MemPlace}
    (h : DataW.Trod enc Try.prog w 0 sp held 46 (.slice A len cap) dd ps) :
    len ≤ cap ∧ cap ≤ maxLen ∧ ∃ l : List (Int × List Nat), len = l.length ∧ Steps w w.heap.size A l ∧ ∀ p ∈ l, (Lit.int .i64 p.1).wf = true ∧ p.2.length = 6 ∧ ∀ x ∈ p.2, x ≤ 18446744073709551615 := by
  obtain ⟨h1, h2, h3⟩ := flat_slice 4 K7 Try.underlying46 flat7 (by kernel_rfl) h
  refine ⟨h1, h2, ?_⟩
  rcases Nat.eq_zero_or_pos len with h0 | h0
  · exact ⟨[], h0, (fun h => absurd h (by simp)), (fun L h => by cases h)⟩
  · obtain ⟨⟨b, off, spot⟩, rfl, hc⟩ := h3 (by omega)
    have hs : spot = none := by
      obtain ⟨cs, hk, hcc⟩ := hc 0 h0
      obtain ⟨z, L, rfl, _, hl, _⟩ := step_cells hk
      have := hcc 0 _ rfl
      simp only [Nat.zero_mul, Nat.add_zero] at this
      simpa [Addr.add] using World.cell?_spot this
    subst hs
    have hadd : ∀ k, (⟨b, off, none⟩ : Addr).add k = ⟨b, off + k, none⟩ := fun k => Addr.add_mid b off k
    obtain ⟨l, hl, hb, hr⟩ := steps_cells w b off len (fun i hi => by
      obtain ⟨cs, hk, hcc⟩ := hc i hi
      exact ⟨cs, hk, fun j v hj => by have := hcc j v hj; rw [hadd] at this; exact this⟩)
    refine ⟨l, hl.symm, fun _ => ⟨b, off, rfl, ?_, hr⟩, hb⟩
    have hl0 : 0 < l.length := by omega
    obtain ⟨h6, hr0⟩ := hr 0 l[0] (List.getElem?_eq_getElem hl0)
    exact block_lt_of_cell (hr0 0 _ rfl)
/-- of a vector that grows: its first k numbers are the new ones. -/
def mix6 (J M : List Nat) (k : Nat) : List Nat := J.take k ++ M.drop k
theorem mix_len {J M : List Nat} (hJ : J.length = 6) (hM : M.length = 6) (k : Nat) (hk : k ≤ 6) : (mix6 J M k).length = 6 := by simp [mix6, hJ, hM]; omega
theorem mix_zero (J M : List Nat) : mix6 J M 0 = M := by simp [mix6]
theorem mix_all {J M : List Nat} (hJ : J.length = 6) (hM : M.length = 6) : mix6 J M 6 = J := by
  have h1 : J.take 6 = J := List.take_of_length_le (by omega)
  have h2 : M.drop 6 = [] := List.drop_eq_nil_of_le (by omega)
  simp [mix6, h1, h2]
theorem mix_at {J M : List Nat} (hJ : J.length = 6) (hM : M.length = 6) (k : Nat) (hk : k < 6) : (mix6 J M k)[k]? = M[k]? := by
  unfold mix6
  rw [List.getElem?_append_right (by simp; omega)]
  simp [hJ, Nat.min_eq_left (Nat.le_of_lt hk)]
theorem mix_set {J M : List Nat} (hJ : J.length = 6) (hM : M.length = 6) (k : Nat) (hk : k < 6) (hk' : k < J.length) : (mix6 J M k).set k J[k] = mix6 J M (k + 1) := by
  obtain ⟨a, b, c, d, e, f, rfl⟩ := six hJ
  obtain ⟨a', b', c', d', e', f', rfl⟩ := six hM
  match k, hk with
  | 0, _ | 1, _ | 2, _ | 3, _ | 4, _ | 5, _ => rfl
/-- one number of one of six vectors. -/
theorem peers_put {K : List (List Nat)} (h : Six6 K) (j : Nat) (hj : j < 6) (k : Nat) (hk : k < 6) (L : List Nat) (hL : K[j]? = some L) (x : Nat) : (peersA K).setIfInBounds (j * 6 + k) (.int .u64 (x : Int)) = peersA (K.set j (L.set k x)) := by
  obtain ⟨a, b, c, d, e, f, rfl⟩ := six6 h
  have ha := six (h.each a (by simp)); have hb := six (h.each b (by simp)); have hc := six (h.each c (by simp))
  have hd := six (h.each d (by simp)); have he := six (h.each e (by simp)); have hf := six (h.each f (by simp))
  obtain ⟨_, _, _, _, _, _, rfl⟩ := ha; obtain ⟨_, _, _, _, _, _, rfl⟩ := hb; obtain ⟨_, _, _, _, _, _, rfl⟩ := hc
  obtain ⟨_, _, _, _, _, _, rfl⟩ := hd; obtain ⟨_, _, _, _, _, _, rfl⟩ := he; obtain ⟨_, _, _, _, _, _, rfl⟩ := hf
  match j, hj with
  | 0, _ | 1, _ | 2, _ | 3, _ | 4, _ | 5, _ =>
    injection hL with hL
    subst hL
    match k, hk with
    | 0, _ | 1, _ | 2, _ | 3, _ | 4, _ | 5, _ => (show _ = _; kernel_rfl)
theorem set_set_same {α : Type} (K : List α) (j : Nat) (a b : α) : (K.set j a).set j b = K.set j b := by simp
theorem join_at {A B : List Nat} (hA : A.length = 6) (hB : B.length = 6) (k : Nat) (hk : k < 6) (h1 : k < A.length) (h2 : k < B.length) (h3 : k < (joinV [A, B]).length) : (joinV [A, B])[k] = max A[k] B[k] := by
  obtain ⟨a, b, c, d, e, f, rfl⟩ := six hA
  obtain ⟨a', b', c', d', e', f', rfl⟩ := six hB
  have hm : ∀ x y, pick gtN x y = max x y := fun x y => by
    unfold pick gtN
    by_cases h : x < y
    · rw [decide_eq_true h, if_pos rfl]; omega
    · rw [decide_eq_false h]; simp; omega
  match k, hk with
  | 0, _ | 1, _ | 2, _ | 3, _ | 4, _ | 5, _ => exact hm _ _
/-- a step that lies below, whatever is made above. -/
structure GS (w W : World) (b o : Nat) (z : Int) (V : List Nat) : Prop where
  bel : Below w.heap.size w W
  lt : b < w.heap.size
  cz : W.cell? ⟨b, o, none⟩ = some (.int .i64 z)
  rv : W.rangeAt b (o + 1) (vecL V)
theorem GS.of_below {w W W' : World} {b o : Nat} {z : Int} {V : List Nat} (h : GS w W b o z V) (h1 : Below w.heap.size w W') : GS w W' b o z V := by
  have e : ∀ p : Addr, p.block = b → W'.cell? p = W.cell? p := fun p hp => (h1.cell (by rw [hp]; exact h.lt)).trans (h.bel.cell (by rw [hp]; exact h.lt)).symm
  exact ⟨h1, h.lt, (e _ rfl).trans h.cz, fun r v hv => (e _ rfl).trans (h.rv r v hv)⟩
theorem GS.drew {w W : World} {b o : Nat} {z : Int} {V : List Nat} (h : GS w W b o z V) : GS w W.drew b o z V := h.of_below h.bel.drew
theorem GS.alloc {w W : World} {b o : Nat} {z : Int} {V : List Nat} (h : GS w W b o z V) (x : Obj) : GS w (W.alloc x) b o z V := h.of_below (h.bel.alloc h.bel.size x)
theorem GS.next {w W W' : World} {b o : Nat} {z : Int} {V : List Nat} (h : GS w W b o z V) (hb : Below W.heap.size W W') : GS w W' b o z V := h.of_below (h.bel.trans (hb.mono h.bel.size))
theorem GS.grown {w W W' : World} {b o : Nat} {z : Int} {V : List Nat} {g : Nat} (h : GS w W b o z V) (hg : w.heap.size ≤ g) (hb : W.grownBy W' (some g)) : GS w W' b o z V :=
  h.of_below (h.bel.grown hb h.bel.size (fun k hk => by injection hk with hk; omega))
theorem GS.vat {w W : World} {b o : Nat} {z : Int} {V : List Nat} (h : GS w W b o z V) (k : Nat) (hk : k < V.length) : W.cell? ⟨b, o + 1 + k, none⟩ = some (.int .u64 ((V[k] : Nat) : Int)) := h.rv k _ (vecL_at V k hk)
theorem meet_fold : ∀ (l : List (List Nat)) (a : List Nat), a.length = 6 → (∀ u ∈ l, u.length = 6) → ∀ (k : Nat), k < 6 →
    ((l.foldl (fun o n => List.zipWith (pick ltN) o n) a)[k]?.getD 0 ≤ a[k]?.getD 0) ∧ ∀ u ∈ l, (l.foldl (fun o n => List.zipWith (pick ltN) o n) a)[k]?.getD 0 ≤ u[k]?.getD 0
  | [], a, _, _, k, _ => ⟨Nat.le_refl _, fun u hu => by cases hu⟩
  | n :: l, a, ha, hl, k, hk => by
    have hn := hl n (by simp)
    have hz : (List.zipWith (pick ltN) a n).length = 6 := by simp [ha, hn]
    have hm : ∀ x y, pick ltN x y = min x y := fun x y => by
      unfold pick ltN
      by_cases h : y < x
      · rw [decide_eq_true h, if_pos rfl]; omega
      · rw [decide_eq_false h]; simp; omega
    have h1 : k < a.length := by omega
    have h2 : k < n.length := by omega
    have e : (List.zipWith (pick ltN) a n)[k]?.getD 0 = min (a[k]?.getD 0) (n[k]?.getD 0) := by
      simp [List.getElem?_zipWith, List.getElem?_eq_getElem h1, List.getElem?_eq_getElem h2, hm]
    obtain ⟨i1, i2⟩ := meet_fold l _ hz (fun u hu => hl u (by simp [hu])) k hk
    rw [List.foldl_cons]
    refine ⟨by omega, fun u hu => ?_⟩
    rcases List.mem_cons.1 hu with rfl | hu
    · omega
    · exact i2 u hu
theorem meet_le (l : List (List Nat)) (hl : ∀ u ∈ l, u.length = 6) (u : List Nat) (hu : u ∈ l) (k : Nat) (hk : k < 6) (h1 : k < (meetV l).length) (h2 : k < u.length) : (meetV l)[k] ≤ u[k] := by
  have h : (meetV l)[k]?.getD 0 ≤ u[k]?.getD 0 := by
    cases l with
    | nil => cases hu
    | cons a l =>
      obtain ⟨i1, i2⟩ := meet_fold l a (hl a (by simp)) (fun u hu => hl u (by simp [hu])) k hk
      rcases List.mem_cons.1 hu with rfl | hu
      · exact i1
      · exact i2 u hu
  rw [List.getElem?_eq_getElem h1, List.getElem?_eq_getElem h2] at h
  exact h
structure GT (w W : World) (b o : Nat) (z : Int) (V : List Nat) (K M : List (List Nat)) : Prop where
  s : GS w W b o z V
  p : Blk W w.heap.size 88 (peersA K)
  m : Blk W (w.heap.size + 1) 50 (peersA M)
theorem GT.drew {w W : World} {b o : Nat} {z : Int} {V : List Nat} {K M : List (List Nat)} (h : GT w W b o z V K M) : GT w W.drew b o z V K M := ⟨h.s.drew, h.p.drew, h.m.drew⟩
theorem GT.alloc {w W : World} {b o : Nat} {z : Int} {V : List Nat} {K M : List (List Nat)} (h : GT w W b o z V K M) (x : Obj) : GT w (W.alloc x) b o z V K M := ⟨h.s.alloc x, h.p.alloc x, h.m.alloc x⟩
theorem GT.next {w W W' : World} {b o : Nat} {z : Int} {V : List Nat} {K M : List (List Nat)} (hb : Below W.heap.size W W') (h : GT w W b o z V K M) : GT w W' b o z V K M := ⟨h.s.next hb, h.p.below hb h.p.lt, h.m.below hb h.m.lt⟩
/-- the peers have been told. -/
theorem GT.told {w W W' : World} {b o : Nat} {z : Int} {V : List Nat} {K M K' : List (List Nat)} (hB : Blk W' w.heap.size 88 (peersA K')) (hg : W.grownBy W' (some w.heap.size)) (h : GT w W b o z V K M) : GT w W' b o z V K' M :=
  ⟨h.s.grown (Nat.le_refl _) hg, hB, h.m.grown hg (by omega)⟩
structure GI (w W : World) (b o : Nat) (z : Int) (V : List Nat) (K M : List (List Nat)) (ga : Nat) (L : List Nat) (gn : Nat) (J : List Nat) : Prop where
  t : GT w W b o z V K M
  a : Blk W ga 24 (vecA L)
  n : Blk W gn 24 (vecA J)
  ha : w.heap.size + 1 < ga
  hn : w.heap.size + 1 < gn
theorem GI.drew {w W : World} {b o : Nat} {z : Int} {V : List Nat} {K M : List (List Nat)} {ga gn : Nat} {L J : List Nat} (h : GI w W b o z V K M ga L gn J) : GI w W.drew b o z V K M ga L gn J := ⟨h.t.drew, h.a.drew, h.n.drew, h.ha, h.hn⟩
theorem Blk.vec {W : World} {g : Nat} {t : TypeId} {L : List Nat} (h : Blk W g t (vecA L)) (k : Nat) (hk : k < L.length) : W.cell? ⟨g, k, none⟩ = some (.int .u64 ((L[k] : Nat) : Int)) := by
  rw [h.cell]; exact vecA_at L k hk
theorem GT.mat {w W : World} {b o : Nat} {z : Int} {V : List Nat} {K M : List (List Nat)} (h : GT w W b o z V K M) (hM : Six6 M) (j k : Nat) (hj : j < 6) (hk : k < 6) (Q : List Nat) (hQ : M[j]? = some Q) (x : Nat) (hx : Q[k]? = some x) : W.cell? ⟨w.heap.size + 1, j * 6 + k, none⟩ = some (.int .u64 (x : Int)) := by
  rw [h.m.cell, peers_at hM j hj k hk Q hQ]; simp [vecL, hx]
/-- one number of 'most' is written. -/
theorem GI.put {w W : World} {b o : Nat} {z : Int} {V : List Nat} {K M : List (List Nat)} {ga gn : Nat} {L J : List Nat} (h : GI w W b o z V K M ga L gn J) (hM : Six6 M) (j k : Nat) (hj : j < 6) (hk : k < 6) (Q : List Nat) (hQ : M[j]? = some Q) (x : Nat) :
    GI w (W.setCell ⟨w.heap.size + 1, j * 6 + k, none⟩ (.int .u64 (x : Int))) b o z V K (M.set j (Q.set k x)) ga L gn J := by
  have ha := h.ha
  have hn := h.hn
  refine ⟨⟨?_, h.t.p.far (p := ⟨w.heap.size + 1, j * 6 + k, none⟩) (by show w.heap.size ≠ w.heap.size + 1; omega) _, ?_⟩, h.a.far (p := ⟨w.heap.size + 1, j * 6 + k, none⟩) (by show ga ≠ w.heap.size + 1; omega) _, h.n.far (p := ⟨w.heap.size + 1, j * 6 + k, none⟩) (by show gn ≠ w.heap.size + 1; omega) _, ha, hn⟩
  · exact h.t.s.of_below (h.t.s.bel.setCell (p := ⟨w.heap.size + 1, j * 6 + k, none⟩) (by show w.heap.size ≤ w.heap.size + 1; omega) _)
  · rw [← peers_put hM j hj k hk Q hQ x]
    exact h.t.m.set_ _ _
theorem set_self {α : Type} {K : List α} {j : Nat} {a : α} (h : K[j]? = some a) : K.set j a = K := by
  refine List.ext_getElem? fun i => ?_
  rcases Nat.lt_or_ge i K.length with hi | hi
  · by_cases e : j = i
    · subst e; rw [List.getElem?_set_self hi]; exact h.symm
    · rw [List.getElem?_set_ne e]
  · rw [List.getElem?_eq_none (by simpa using hi), List.getElem?_eq_none hi]
theorem Below.drewN {B : Nat} {a w : World} (h : Below B a w) (n : Nat) : Below B a (w.drewN n) := ⟨h.os, h.tape, h.output, h.size, h.block⟩
theorem GI.drewN {w W : World} {b o : Nat} {z : Int} {V : List Nat} {K M : List (List Nat)} {ga gn : Nat} {L J : List Nat} (h : GI w W b o z V K M ga L gn J) (n : Nat) : GI w (W.drewN n) b o z V K M ga L gn J :=
  ⟨⟨h.t.s.of_below (Below.drewN h.t.s.bel n), h.t.p, h.t.m⟩, h.a, h.n, h.ha, h.hn⟩
end Go.Proofs.Ytdliklkfhakmhaa
