import Derived.Test.YtmddbpkojboogaaFlat
import Derived.DeepKeys
namespace Go.Proofs.Ytmddbpkojboogaa
/-! values of numbers and truths alone, arrays and structs of them: one that is compared with itself. -/
theorem mapM_some {α β : Type} {f : α → Option β} : ∀ (l : List α), (∀ x ∈ l, ∃ y, f x = some y) → ∃ ys, l.mapM f = some ys
  | [], _ => ⟨[], rfl⟩
  | a :: l, h => by
    obtain ⟨y, hy⟩ := h a (by simp)
    obtain ⟨ys, hys⟩ := mapM_some l (fun x hx => h x (by simp [hx]))
    exact ⟨y :: ys, by rw [List.mapM_cons, hy, hys]; rfl⟩
theorem Kinded.sub {ks : List (Option IntKind)} {cs : List Value} (h : Kinded ks cs) (o n : Nat) : Kinded ((ks.drop o).take n) ((cs.drop o).take n) := by
  refine ⟨by rw [List.length_take, List.length_take, List.length_drop, List.length_drop, h.1], fun p k v hk hv => ?_⟩
  rw [List.getElem?_take] at hk hv
  split at hk
  · rename_i hp
    rw [if_pos hp, List.getElem?_drop] at hv
    rw [List.getElem?_drop] at hk
    exact h.2 (o + p) k v hk hv
  · cases hk
theorem flat_lits {P : Program} : ∀ (d : Nat) (t : TypeId) (ks : List (Option IntKind)) (cs : List Value), flatOK P d t ks = true → P.keyTypeAt d t = true → Kinded ks cs → ∃ la, P.keyLits d t cs = some la
  | 0, _, _, _, h, _, _ => by simp [flatOK] at h
  | d + 1, t, ks, cs, hf, hk, hc => by
    unfold flatOK at hf
    unfold Program.keyTypeAt at hk
    unfold Program.keyLits
    cases hu : P.underlying t with
    | none => rw [hu] at hf; cases hf
    | some de =>
      rw [hu] at hf hk
      cases de with
      | bool =>
        obtain rfl : ks = [none] := by simpa using hf
        match cs, hc with
        | [], hc => have := hc.1; simp at this
        | [c], hc =>
          obtain ⟨b, rfl⟩ := hc.2 0 none c rfl rfl
          exact ⟨_, rfl⟩
        | c :: c' :: r, hc => have := hc.1; simp at this
      | int k =>
        obtain rfl : ks = [some k] := by simpa using hf
        match cs, hc with
        | [], hc => have := hc.1; simp at this
        | [c], hc =>
          obtain ⟨n, rfl, hw⟩ := hc.2 0 (some k) c rfl rfl
          exact ⟨[.int k n], by simp [hw]⟩
        | c :: c' :: r, hc => have := hc.1; simp at this
      | struct fs =>
        simp only [Bool.and_eq_true, beq_iff_eq, List.all_eq_true] at hf
        obtain ⟨⟨hl, hfs⟩, _⟩ := hf
        simp only [Bool.and_eq_true] at hk
        have hall : ∀ f ∈ fs.toList, (f.name != "_") = true ∧ P.keyTypeAt d f.type = true := fun f hf => by
          have := Array.all_eq_true'.1 hk.1.1 f (by simpa using hf)
          simpa using this
        obtain ⟨ys, hys⟩ := mapM_some (f := fun f : Field => P.keyLits d f.type ((cs.drop f.offset).take (P.cellsOf f.type))) fs.toList (fun f hfm => flat_lits d f.type _ _ (hfs f hfm) (hall f hfm).2 (hc.sub f.offset (P.cellsOf f.type)))
        have hn : fs.all (·.name != "_") = true := Array.all_eq_true'.2 fun f hfm => (hall f (by simpa using hfm)).1
        refine ⟨ys.flatten, ?_⟩
        simp only [hys, hc.1, hl, hn, and_self, if_true, Option.map_some]
      | array n e =>
        simp only [Bool.and_eq_true, beq_iff_eq, List.all_eq_true] at hf
        obtain ⟨⟨hl, hn⟩, hfs⟩ := hf
        obtain ⟨ys, hys⟩ := mapM_some (f := fun i => P.keyLits d e ((cs.drop (i * P.cellsOf e)).take (P.cellsOf e))) (List.range n) (fun i hi => flat_lits d e _ _ (hfs i hi) hk (hc.sub _ _))
        refine ⟨ys.flatten, ?_⟩
        simp only [hys, hc.1, hl, if_true, Option.map_some]
      | _ => cases hf
/-- compared with itself. -/
theorem flat_same {P : Program} (d m : Nat) (t : TypeId) (ks : List (Option IntKind)) (cs : List Value) (hf : flatOK P m t ks = true) (hk : P.keyTypeAt m t = true) (hc : Kinded ks cs) {de : TypeDesc} (hu : P.underlying t = some de) (hag : isAggD de = true) (hl : ks.length = P.cellsOf t) (w : World) :
    (Op.equalIn (d + m) t (.agg cs.toArray) (.agg cs.toArray)).run P w = .ok true w := by
  obtain ⟨la, hla⟩ := flat_lits m t ks cs hf hk hc
  have hfm : (Value.agg cs.toArray).formed P t = true := by
    unfold Value.formed
    rw [hu]
    cases de with
    | struct fs => simp [hc.1, hl]
    | array n e => simp [hc.1, hl]
    | _ => cases hag
  obtain ⟨r, hr, hiff⟩ := run_equalIn_deep d m t hk w m m _ _ la la hfm hfm hla hla
  rw [hiff.2 rfl] at hr
  exact hr
end Go.Proofs.Ytmddbpkojboogaa
