import Derived.Test.YtmddbpkojboogaaRows
import Derived.OpenShut
import Derived.ChangeArms
import Derived.WideShapes
import Derived.Deep.Slices
namespace Go.Proofs.Ytmddbpkojboogaa
/-! what is told of arguments that hold numbers and truths alone, one behind the other: arrays and structs of them, by value and in slices. -/
/-- of a kind: a number of that kind, or a truth. -/
def IsK : Option IntKind → Value → Prop
  | some k, v => ∃ n, v = .int k n ∧ (Lit.int k n).wf = true
  | none, v => ∃ b, v = .bool b
/-- the kinds of a type's cells are these. -/
def flatOK (P : Program) : Nat → TypeId → List (Option IntKind) → Bool
  | 0, _, _ => false
  | d + 1, t, ks =>
    match P.underlying t with
    | some .bool => ks == [none]
    | some (.int k) => ks == [some k]
    | some (.struct fs) => ks.length == P.cellsOf t && (fs.toList.all fun f => flatOK P d f.type ((ks.drop f.offset).take (P.cellsOf f.type))) &&
        (List.range ks.length).all fun p => fs.toList.any fun f => decide (f.offset ≤ p) && decide (p < f.offset + P.cellsOf f.type)
    | some (.array n e) => ks.length == P.cellsOf t && ks.length == n * P.cellsOf e && (List.range n).all fun i => flatOK P d e ((ks.drop (i * P.cellsOf e)).take (P.cellsOf e))
    | _ => false
theorem mapM_mem {α β : Type} {f : α → Option β} : ∀ {l : List α} {ys : List β}, l.mapM f = some ys → ∀ x ∈ l, ∃ y, f x = some y
  | [], _, _, x, hx => by cases hx
  | a :: l, ys, h, x, hx => by
    rw [List.mapM_cons] at h
    simp only [bind, Option.bind_eq_some_iff, pure, Option.some.injEq] at h
    obtain ⟨y, hy, zs, hz, _⟩ := h
    rcases List.mem_cons.1 hx with rfl | hx
    · exact ⟨y, hy⟩
    · exact mapM_mem hz x hx
theorem mapM_nth {α β : Type} {f : α → Option β} : ∀ {l : List α} {ys : List β}, l.mapM f = some ys → ∀ (j : Nat) (x : α) (y : β), l[j]? = some x → ys[j]? = some y → f x = some y
  | [], _, _, j, x, y, hx, _ => by simp at hx
  | a :: l, ys, h, j, x, y, hx, hy => by
    rw [List.mapM_cons] at h
    simp only [bind, Option.bind_eq_some_iff, pure, Option.some.injEq] at h
    obtain ⟨y0, hy0, zs, hz, rfl⟩ := h
    cases j with
    | zero => simp at hx hy; subst hx; subst hy; exact hy0
    | succ j => exact mapM_nth hz j x y (by simpa using hx) (by simpa using hy)
def Kinded (ks : List (Option IntKind)) (cs : List Value) : Prop := cs.length = ks.length ∧ ∀ (p : Nat) (k : Option IntKind) (v : Value), ks[p]? = some k → cs[p]? = some v → IsK k v
theorem Kinded.part {ks : List (Option IntKind)} {cs : List Value} {o n p : Nat} {k : Option IntKind} {v : Value} (h : Kinded ((ks.drop o).take n) ((cs.drop o).take n))
    (h1 : o ≤ p) (h2 : p < o + n) (hk : ks[p]? = some k) (hv : cs[p]? = some v) : IsK k v := by
  refine h.2 (p - o) k v ?_ ?_
  · rw [List.getElem?_take, if_pos (by omega), List.getElem?_drop, show o + (p - o) = p by omega]; exact hk
  · rw [List.getElem?_take, if_pos (by omega), List.getElem?_drop, show o + (p - o) = p by omega]; exact hv
theorem flat_reads {H : Type} {enc : TypeId × Value → H} {P : Program} {w : World} {base : Nat} {sp : Nat → Bool} {held : Bool} : ∀ (d : Nat) (t : TypeId) (ks : List (Option IntKind)) (fuel : Nat) (cs : List Value) (x : DataW H × List MemPlace),
    flatOK P d t ks = true → DataW.trod enc P w base sp held fuel t cs = some x → Kinded ks cs
  | 0, _, _, _, _, _, h, _ => by simp [flatOK] at h
  | d + 1, t, ks, 0, cs, x, _, h => by simp [DataW.trod] at h
  | d + 1, t, ks, fuel + 1, cs, x, hf, h => by
    unfold flatOK at hf
    cases hu : P.underlying t with
    | none => rw [hu] at hf; cases hf
    | some de =>
      rw [hu] at hf
      cases de with
      | bool =>
        obtain ⟨b, rfl, _⟩ := DataW.trod_bool hu h
        obtain rfl : ks = [none] := by simpa using hf
        refine ⟨rfl, fun p k v hk hv => ?_⟩
        cases p with
        | zero => simp at hk hv; subst hk; exact ⟨b, hv.symm⟩
        | succ p => simp at hk
      | int k =>
        obtain ⟨n, rfl, _, hw⟩ := DataW.trod_int hu h
        obtain rfl : ks = [some k] := by simpa using hf
        refine ⟨rfl, fun p k' v hk hv => ?_⟩
        cases p with
        | zero => simp at hk hv; subst hk; exact ⟨n, hv.symm, hw⟩
        | succ p => simp at hk
      | struct fs =>
        simp only [Bool.and_eq_true, beq_iff_eq, List.all_eq_true] at hf
        obtain ⟨⟨hl, hfs⟩, hcov⟩ := hf
        rw [DataW.trod_step] at h
        unfold DataW.trodStep at h
        simp only [hu] at h
        split at h
        · rename_i hc
          simp only [Option.map_eq_some_iff] at h
          obtain ⟨ys, hy, _⟩ := h
          refine ⟨by rw [hc, hl], fun p k v hk hv => ?_⟩
          have hp : p < ks.length := by
            rcases Nat.lt_or_ge p ks.length with h | h
            · exact h
            · rw [List.getElem?_eq_none h] at hk; cases hk
          have := hcov p (by simpa using hp)
          simp only [List.any_eq_true, Bool.and_eq_true, decide_eq_true_eq] at this
          obtain ⟨f, hfm, h1, h2⟩ := this
          obtain ⟨y, hy'⟩ := mapM_mem hy f hfm
          exact (flat_reads d f.type _ fuel _ y (hfs f hfm) hy').part h1 h2 hk hv
        · cases h
      | array n e =>
        simp only [Bool.and_eq_true, beq_iff_eq, List.all_eq_true] at hf
        obtain ⟨⟨hl, hn⟩, hfs⟩ := hf
        rw [DataW.trod_step] at h
        unfold DataW.trodStep at h
        simp only [hu] at h
        split at h
        · rename_i hc
          simp only [Option.map_eq_some_iff] at h
          obtain ⟨ys, hy, _⟩ := h
          refine ⟨by rw [hc, hl], fun p k v hk hv => ?_⟩
          have hp : p < ks.length := by
            rcases Nat.lt_or_ge p ks.length with h | h
            · exact h
            · rw [List.getElem?_eq_none h] at hk; cases hk
          have hpos : 0 < P.cellsOf e := by
            rcases Nat.eq_zero_or_pos (P.cellsOf e) with h0 | h0
            · rw [h0, Nat.mul_zero] at hn; omega
            · exact h0
          have hi : p / P.cellsOf e < n := by rw [Nat.div_lt_iff_lt_mul hpos, ← hn]; exact hp
          have hd := Nat.div_add_mod p (P.cellsOf e)
          have hm := Nat.mod_lt p hpos
          rw [Nat.mul_comm] at hd
          obtain ⟨y, hy'⟩ := mapM_mem hy (p / P.cellsOf e) (by simpa using hi)
          exact (flat_reads d e _ fuel _ y (hfs _ (by simpa using hi)) hy').part (by omega) (by omega) hk hv
        · cases h
      | _ => cases hf
def isAggD : TypeDesc → Bool
  | .struct _ => true
  | .array _ _ => true
  | _ => false
theorem flat_value {H : Type} {enc : TypeId × Value → H} {P : Program} {w w' : World} {base b0 : Nat} {r : Reach} {sp : Nat → Bool} {held : Bool} {t : TypeId} {v : Value} {dd : DataW H} {ps : List MemPlace} (d : Nat) (ks : List (Option IntKind))
    (hf : flatOK P d t ks = true) {de : TypeDesc} (hu : P.underlying t = some de) (hag : isAggD de = true) (hv : Value.okWide P w' r b0 t v) (h : DataW.Trod enc P w base sp held t v dd ps) :
    ∃ cs : List Value, v = .agg cs.toArray ∧ Kinded ks cs := by
  obtain ⟨fuel, hr⟩ := h
  obtain ⟨cs, rfl⟩ : ∃ cs, v = .agg cs := by
    unfold Value.okWide at hv
    rw [hu] at hv
    cases de with
    | struct fs => obtain ⟨cs, h1, _⟩ := hv; exact ⟨cs, h1⟩
    | array n e => obtain ⟨cs, h1, _⟩ := hv; exact ⟨cs, h1⟩
    | _ => cases hag
  exact ⟨cs.toList, rfl, flat_reads d t ks fuel _ _ hf hr⟩
/-- a slice of such: nil, or at each index its cells. -/
theorem flat_slice {H : Type} {enc : TypeId × Value → H} {P : Program} {w : World} {base : Nat} {sp : Nat → Bool} {held : Bool} {t e : TypeId} {A : Option Addr} {len cap : Nat} {dd : DataW H} {ps : List MemPlace} (d : Nat) (ks : List (Option IntKind))
    (ht : P.underlying t = some (.slice e)) (hf : flatOK P d e ks = true) (hc : P.cellsOf e = ks.length) (h : DataW.Trod enc P w base sp held t (.slice A len cap) dd ps) :
    len ≤ cap ∧ cap ≤ maxLen ∧ (0 < cap → ∃ a, A = some a ∧ ∀ i, i < len → ∃ cs, Kinded ks cs ∧ ∀ j v, cs[j]? = some v → w.cell? (a.add (i * ks.length + j)) = some v) := by
  obtain ⟨fuel, hr⟩ := h
  rcases Deep.open_slice ht hr with ⟨hcs, _⟩ | ⟨a, len', cap', m, n, D, Pl, hcs, _, hl, hm, hmm, _, hel⟩
  · simp [Value.cells] at hcs
    obtain ⟨rfl, rfl, rfl⟩ := hcs
    exact ⟨Nat.le_refl _, by decide, fun h => absurd h (by omega)⟩
  · simp [Value.cells] at hcs
    obtain ⟨rfl, rfl, rfl⟩ := hcs
    refine ⟨hl, hm, fun _ => ⟨a, rfl, fun i hi => ?_⟩⟩
    obtain ⟨cs', h1, h2⟩ := hel i (by rw [hmm]; split <;> omega)
    refine ⟨cs', flat_reads d e ks n cs' _ hf h2, fun j v hj => ?_⟩
    unfold World.cells? at h1
    split at h1
    · have hlen : cs'.length = ks.length := (flat_reads d e ks n cs' _ hf h2).1
      have hjl : j < ks.length := by
        rcases Nat.lt_or_ge j cs'.length with h | h
        · omega
        · rw [List.getElem?_eq_none h] at hj; cases hj
      rw [hc] at h1
      have := mapM_nth h1 j j v (by simp [hjl]) hj
      rw [Deep.add_add] at this
      exact this
    · cases h1
end Go.Proofs.Ytmddbpkojboogaa
