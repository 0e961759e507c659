import Derived.Test.YtkdmlpmjfnjnmaaTrb
import Derived.WideShapes
import Derived.Deep.Slices
/-! what comes in, as values of the engine: by its type. -/
namespace Go.Proofs.Ytkdmlpmjfnjnmaa.Sv
open Go Go.RowKit
set_option linter.unusedVariables false
set_option linter.unusedSimpArgs false
/-- the memory that a law begins in. -/
def memOf (w : World) : Ctx := ⟨fun _ => .bool false, fun i => w.heap[i]?⟩
section
variable {P : Program} {w : World} {H : Type} {enc : TypeId × Value → H} {base : Nat} {sp : Nat → Bool} {held : Bool}
/-- cells of a type are these, told by an x. -/
def Reif (enc : TypeId × Value → H) (P : Program) (w : World) (base : Nat) (sp : Nat → Bool) (held : Bool) (t : TypeId) (X : Type) (row : X → List AV) (Q : X → Prop) : Prop :=
  ∀ (fuel : Nat) (cs : List Value) (d : DataW H × List MemPlace), DataW.trod enc P w base sp held fuel t cs = some d → ∃ x, VDs (memOf w) (row x) cs ∧ Q x
theorem wf_of {k : IntKind} {n : Int} (h : (Lit.int k n).wf = true) : k.min ≤ n ∧ n ≤ k.max := by
  simpa [Lit.wf] using h
theorem reif_int {t : TypeId} (k : IntKind) (ht : P.underlying t = some (.int k)) : Reif enc P w base sp held t Int (fun n => [.sint k n]) (fun n => k.min ≤ n ∧ n ≤ k.max) := fun fuel cs d h => by
  obtain ⟨n, rfl, _, hw⟩ := DataW.trod_int ht h
  exact ⟨n, .cons _ _ _ _ (.sint k n) .nil, wf_of hw⟩
theorem reif_bool {t : TypeId} (ht : P.underlying t = some .bool) : Reif enc P w base sp held t Bool (fun b => [.bool b]) (fun _ => True) := fun fuel cs d h => by
  obtain ⟨b, rfl, _⟩ := DataW.trod_bool ht h
  exact ⟨b, .cons _ _ _ _ (.bool b) .nil, trivial⟩
theorem mapM_at {α β : Type} {f : α → Option β} : ∀ {l : List α} {ys : List β}, l.mapM f = some ys → l.length = ys.length ∧ ∀ (j : Nat) (x : α), l[j]? = some x → ∃ y, ys[j]? = some y ∧ f x = some y
  | [], ys, h => by
    simp at h; subst h
    exact ⟨rfl, fun j x hx => by simp at hx⟩
  | a :: l, ys, h => by
    rw [List.mapM_cons] at h
    cases hfa : f a with
    | none => simp [hfa] at h
    | some y =>
      cases hfl : l.mapM f with
      | none => simp [hfa, hfl] at h
      | some r =>
        simp [hfa, hfl] at h
        subst h
        obtain ⟨h1, h2⟩ := mapM_at hfl
        refine ⟨by simp [h1], fun j x hx => ?_⟩
        cases j with
        | zero => simp at hx; subst hx; exact ⟨y, by simp, hfa⟩
        | succ j => simpa using h2 j x (by simpa using hx)
theorem cell_add {a : Addr} {m : Nat} {y : Value} (h : w.cell? (a.add m) = some y) : ∃ c elem fr, w.heap[a.block]? = some (.cells c elem fr) ∧ c[a.off + m]? = some y := by
  unfold Addr.add at h
  split at h
  · rename_i hm
    unfold World.cell? at h
    split at h
    · rename_i c elem fr hh
      split at h
      · cases h
      · exact ⟨c, elem, fr, hh, by simp [hm, h]⟩
    · cases h
  · unfold World.cell? at h
    simp only at h
    split at h
    · rename_i c elem fr hh
      exact ⟨c, elem, fr, hh, by simpa using h⟩
    · cases h
theorem cells_in {a : Addr} {o z : Nat} {cs : List Value} (hz : 0 < z) (h : w.cells? base (a.add o) z = some cs) : (o = 0 → a.spot = none) ∧ ∃ c elem fr, w.heap[a.block]? = some (.cells c elem fr) ∧ a.off + o + z ≤ c.size ∧ cs = (c.toList.drop (a.off + o)).take z := by
  have hadd : ∀ i j, (a.add i).add j = a.add (i + j) := fun i j => by
    unfold Addr.add
    by_cases hi : i = 0 <;> by_cases hj : j = 0 <;> simp [hi, hj, Nat.add_assoc]
  unfold World.cells? at h
  split at h
  · obtain ⟨hl, hall⟩ := mapM_at h
    rw [List.length_range] at hl
    have hcell : ∀ j, j < z → ∃ y, cs[j]? = some y ∧ w.cell? (a.add (o + j)) = some y := fun j hj => by
      obtain ⟨y, h1, h2⟩ := hall j j (by simp [hj])
      rw [hadd] at h2
      exact ⟨y, h1, h2⟩
    obtain ⟨y0, h0, h0'⟩ := hcell 0 hz
    obtain ⟨c, elem, fr, hh, _⟩ := cell_add h0'
    have hcell' : ∀ j, j < z → c[a.off + (o + j)]? = cs[j]? := fun j hj => by
      obtain ⟨y, h1, h2⟩ := hcell j hj
      obtain ⟨c', _, _, hh', h3⟩ := cell_add h2
      rw [hh] at hh'
      cases hh'
      rw [h3, h1]
    refine ⟨fun ho => ?_, c, elem, fr, hh, ?_, List.ext_getElem? fun j => ?_⟩
    · subst ho
      have := World.cell?_spot h0'
      simpa [Addr.add] using this
    · have h1 := hcell' (z - 1) (by omega)
      have h2 : cs[z - 1]? ≠ none := by
        rw [ne_eq, List.getElem?_eq_none_iff]; omega
      rw [← h1, ne_eq, Array.getElem?_eq_none_iff] at h2
      omega
    · rw [List.getElem?_take, List.getElem?_drop]
      by_cases hj : j < z
      · rw [if_pos hj, ← hcell' j hj, Nat.add_assoc]; simp
      · rw [if_neg hj, List.getElem?_eq_none (by omega)]
  · cases h
theorem reif_slice {t e : TypeId} {X : Type} [Inhabited X] {row : X → List AV} {Q : X → Prop} (z : Nat) (ht : P.underlying t = some (.slice e)) (hz : P.cellsOf e = z) (hpos : 0 < z) (hrow : ∀ x, (row x).length = z) (he : Reif enc P w base sp held e X row Q) :
    Reif enc P w base sp held t (Nat × (Nat → X)) (fun p => [.data z p.1 fun i => row (p.2 i)]) (fun p => p.1 ≤ maxLen ∧ ∀ i, i < p.1 → Q (p.2 i)) := fun fuel cs d h => by
  rcases Deep.open_slice ht h with ⟨rfl, _⟩ | ⟨a, len, cap, m, n, D, Pl, rfl, _, hl, hm, hmm, _, hel⟩
  · exact ⟨(0, fun _ => default), .cons _ _ _ _ (.dataN z _) .nil, Nat.zero_le _, fun i hi => absurd hi (Nat.not_lt_zero i)⟩
  · have hlm : len ≤ m := by rw [hmm]; split <;> omega
    rw [hz] at hel
    rcases Nat.eq_zero_or_pos len with h0 | h0
    · subst h0
      exact ⟨(0, fun _ => default), .cons _ _ _ _ (.data0 z _ a cap) .nil, Nat.zero_le _, fun i hi => absurd hi (Nat.not_lt_zero i)⟩
    · have hx : ∀ i, ∃ x, i < len → ∃ cs', w.cells? base (a.add (i * z)) z = some cs' ∧ VDs (memOf w) (row x) cs' ∧ Q x := fun i => by
        by_cases hi : i < len
        · obtain ⟨cs', h1, h2⟩ := hel i (by omega)
          obtain ⟨x, h3, h4⟩ := he _ _ _ h2
          exact ⟨x, fun _ => ⟨cs', h1, h3, h4⟩⟩
        · exact ⟨default, fun h => absurd h hi⟩
      obtain ⟨f, hf⟩ := Classical.axiomOfChoice hx
      obtain ⟨cs0, k1, _⟩ := hf 0 h0
      obtain ⟨hspot0, c, elem, fr, hh, hsz, _⟩ := cells_in hpos k1
      have hspot := hspot0 (Nat.zero_mul z)
      have hform : a = ⟨a.block, a.off, none⟩ := by
        obtain ⟨b, off, s⟩ := a
        simp only at hspot
        subst hspot
        rfl
      have heach : ∀ i, i < len → a.off + i * z + z ≤ c.size ∧ VDs (memOf w) (row (f i)) ((c.toList.drop (a.off + i * z)).take z) := fun i hi => by
        obtain ⟨cs', h1, h2, _⟩ := hf i hi
        obtain ⟨_, c', _, _, hh', hsz', e'⟩ := cells_in hpos h1
        rw [hh] at hh'
        cases hh'
        rw [e'] at h2
        exact ⟨hsz', h2⟩
      refine ⟨(len, f), .cons _ _ _ _ ?_ .nil, by omega, fun i hi => by obtain ⟨_, _, _, h3⟩ := hf i hi; exact h3⟩
      rw [hform]
      have h1 := (heach (len - 1) (by omega)).1
      have h2 : (len - 1) * z + z = len * z := by
        rw [← Nat.succ_mul]; congr 1; omega
      exact .data z len _ a.block a.off cap c elem fr hh hl (by omega) (fun i hi => hrow _) fun i hi => (heach i hi).2
theorem vds_app {ρ : Ctx} : ∀ {l m : List AV} {u v : List Value}, VDs ρ l u → VDs ρ m v → VDs ρ (l ++ m) (u ++ v)
  | _, _, _, _, .nil, h => h
  | _, _, _, _, .cons a v l m h t, k => .cons _ _ _ _ h (vds_app t k)
theorem reif_struct {t : TypeId} {fs : List Field} {X : Type} {row : X → List AV} {Q : X → Prop} (ht : P.underlying t = some (.struct fs.toArray))
    (hf : ∀ (fuel : Nat) (cs : List Value) (ds : List (DataW H × List MemPlace)), cs.length = P.cellsOf t → fs.mapM (fun f => DataW.trod enc P w base sp held fuel f.type ((cs.drop f.offset).take (P.cellsOf f.type))) = some ds → ∃ x, VDs (memOf w) (row x) cs ∧ Q x) : Reif enc P w base sp held t X row Q := fun fuel cs d h => by
  cases fuel with
  | zero => simp [DataW.trod] at h
  | succ fuel =>
    rw [DataW.trod_step] at h
    unfold DataW.trodStep at h
    simp only [ht] at h
    split at h
    · rename_i hc
      simp only [Option.map_eq_some_iff] at h
      obtain ⟨ys, hy, _⟩ := h
      exact hf fuel cs ys hc hy
    · cases h
/-- a field, then the others. -/
theorem reif_field {f : Field} {fs : List Field} {X Y : Type} {row : X → List AV} {Q : X → Prop} {row' : Y → List AV} {Q' : Y → Prop} {n o z : Nat} (ho : f.offset = o) (hz : P.cellsOf f.type = z) (h1 : Reif enc P w base sp held f.type X row Q)
    (h2 : ∀ (fuel : Nat) (cs : List Value) (ds : List (DataW H × List MemPlace)), cs.length = n → fs.mapM (fun f => DataW.trod enc P w base sp held fuel f.type ((cs.drop f.offset).take (P.cellsOf f.type))) = some ds → ∃ x, VDs (memOf w) (row' x) (cs.drop (o + z)) ∧ Q' x) :
    ∀ (fuel : Nat) (cs : List Value) (ds : List (DataW H × List MemPlace)), cs.length = n → (f :: fs).mapM (fun f => DataW.trod enc P w base sp held fuel f.type ((cs.drop f.offset).take (P.cellsOf f.type))) = some ds → ∃ x : X × Y, VDs (memOf w) (row x.1 ++ row' x.2) (cs.drop o) ∧ Q x.1 ∧ Q' x.2 := fun fuel cs ds hl h => by
  rw [List.mapM_cons] at h
  cases hfa : DataW.trod enc P w base sp held fuel f.type ((cs.drop f.offset).take (P.cellsOf f.type)) with
  | none => simp [hfa] at h
  | some y =>
    cases hfl : fs.mapM (fun f => DataW.trod enc P w base sp held fuel f.type ((cs.drop f.offset).take (P.cellsOf f.type))) with
    | none => simp [hfa, hfl] at h
    | some r =>
      obtain ⟨x, k1, k2⟩ := h1 _ _ _ hfa
      obtain ⟨y', k3, k4⟩ := h2 _ _ _ hl hfl
      refine ⟨(x, y'), ?_, k2, k4⟩
      rw [ho, hz] at k1
      have e : cs.drop o = (cs.drop o).take z ++ cs.drop (o + z) := by
        rw [← List.drop_drop]; exact (List.take_append_drop z (cs.drop o)).symm
      rw [e]
      exact vds_app k1 k3
theorem reif_end {n o : Nat} (hn : n ≤ o) : ∀ (fuel : Nat) (cs : List Value) (ds : List (DataW H × List MemPlace)), cs.length = n → ([] : List Field).mapM (fun f => DataW.trod enc P w base sp held fuel f.type ((cs.drop f.offset).take (P.cellsOf f.type))) = some ds → ∃ x : Unit, VDs (memOf w) ((fun _ => []) x) (cs.drop o) ∧ True := fun fuel cs ds hl _ => by
  refine ⟨(), ?_, trivial⟩
  rw [List.drop_of_length_le (by omega)]
  exact .nil
/-- an array, its elements one behind the other. -/
theorem reif_array {t e : TypeId} {X : Type} [Inhabited X] {row : X → List AV} {Q : X → Prop} (n z : Nat) (ht : P.underlying t = some (.array n e)) (hz : P.cellsOf e = z) (hc : P.cellsOf t = n * z) (he : Reif enc P w base sp held e X row Q) :
    Reif enc P w base sp held t (Nat → X) (fun f => (List.range n).flatMap fun i => row (f i)) (fun f => ∀ i, i < n → Q (f i)) := fun fuel cs d h => by
  cases fuel with
  | zero => simp [DataW.trod] at h
  | succ fuel =>
    rw [DataW.trod_step] at h
    unfold DataW.trodStep at h
    simp only [ht] at h
    split at h
    · rename_i hcl
      simp only [Option.map_eq_some_iff] at h
      obtain ⟨ys, hy, _⟩ := h
      obtain ⟨hl, hall⟩ := mapM_at hy
      have hx : ∀ i, ∃ x, i < n → VDs (memOf w) (row x) ((cs.drop (i * z)).take z) ∧ Q x := fun i => by
        by_cases hi : i < n
        · obtain ⟨y, _, h2⟩ := hall i i (by simp [hi])
          obtain ⟨x, h3, h4⟩ := he _ _ _ h2
          rw [hz] at h3
          exact ⟨x, fun _ => ⟨h3, h4⟩⟩
        · exact ⟨default, fun h => absurd h hi⟩
      obtain ⟨f, hf⟩ := Classical.axiomOfChoice hx
      refine ⟨f, ?_, fun i hi => (hf i hi).2⟩
      have key : ∀ k, k ≤ n → VDs (memOf w) ((List.range k).flatMap fun i => row (f i)) (cs.take (k * z)) := fun k => by
        induction k with
        | zero => intro _; simp; exact .nil
        | succ k ih =>
          intro hk
          rw [List.range_succ, List.flatMap_append, Nat.succ_mul, List.take_add]
          refine vds_app (ih (by omega)) ?_
          simpa using (hf k (by omega)).1
      have := key n (Nat.le_refl _)
      rwa [List.take_of_length_le (by rw [hcl, hc]; exact Nat.le_refl _)] at this
    · cases h
theorem vd_one {ρ : Ctx} {a : AV} {v : Value} (h : VDs ρ [a] [v]) : VD ρ a v := by
  cases h with
  | cons _ _ _ _ h _ => exact h
end
end Go.Proofs.Ytkdmlpmjfnjnmaa.Sv
