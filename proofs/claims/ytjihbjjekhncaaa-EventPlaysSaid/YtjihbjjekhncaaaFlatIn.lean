import Derived.Test.YtjihbjjekhncaaaFlatEq
namespace Go.Proofs.Ytjihbjjekhncaaa
/-! values of numbers and truths alone, arrays and structs of them: two that are compared are the same just if their cells are. -/
theorem mapM_pair {α β : Type} {f g : α → Option (List β)} : ∀ (l : List α), (∀ x ∈ l, ∀ y y', f x = some y → g x = some y' → y.length = y'.length) → ∀ ys ys', l.mapM f = some ys → l.mapM g = some ys' →
    ys.flatten.length = ys'.flatten.length ∧ (ys.flatten = ys'.flatten → ∀ x ∈ l, f x = g x)
  | [], _, ys, ys', h, h' => by
    simp at h h'; subst h h'; exact ⟨rfl, fun _ x hx => by cases hx⟩
  | a :: l, hl, ys, ys', h, h' => by
    rw [List.mapM_cons] at h h'
    cases hfa : f a with
    | none => simp [hfa] at h
    | some y =>
      cases hga : g a with
      | none => simp [hga] at h'
      | some y' =>
        cases hfl : l.mapM f with
        | none => simp [hfa, hfl] at h
        | some r =>
          cases hgl : l.mapM g with
          | none => simp [hga, hgl] at h'
          | some r' =>
            simp [hfa, hfl] at h
            simp [hga, hgl] at h'
            subst h h'
            have e1 := hl a (by simp) y y' hfa hga
            obtain ⟨e2, e3⟩ := mapM_pair l (fun x hx => hl x (by simp [hx])) r r' hfl hgl
            refine ⟨by simp only [List.flatten_cons, List.length_append]; omega, fun he x hx => ?_⟩
            simp only [List.flatten_cons] at he
            obtain ⟨e4, e5⟩ := List.append_inj he e1
            rcases List.mem_cons.1 hx with rfl | hx
            · rw [hfa, hga, e4]
            · exact e3 e5 x hx
theorem flat_pair {P : Program} : ∀ (d : Nat) (t : TypeId) (ks : List (Option IntKind)) (cs cs' : List Value), flatOK P d t ks = true → P.keyTypeAt d t = true → Kinded ks cs → Kinded ks cs' → ∀ l l', P.keyLits d t cs = some l → P.keyLits d t cs' = some l' →
    l.length = l'.length ∧ (l = l' → cs = cs')
  | 0, _, _, _, _, h, _, _, _, _, _, _, _ => by simp [flatOK] at h
  | d + 1, t, ks, cs, cs', hf, hk, hc, hc', l, l', e, e' => by
    unfold flatOK at hf
    unfold Program.keyTypeAt at hk
    unfold Program.keyLits at e e'
    cases hu : P.underlying t with
    | none => rw [hu] at hf; cases hf
    | some de =>
      rw [hu] at hf hk e e'
      cases de with
      | bool =>
        obtain rfl : ks = [none] := by simpa using hf
        match cs, cs', hc, hc' with
        | [], _, hc, _ => have := hc.1; simp at this
        | _ :: _ :: _, _, hc, _ => have := hc.1; simp at this
        | [c], [], _, hc' => have := hc'.1; simp at this
        | [c], _ :: _ :: _, _, hc' => have := hc'.1; simp at this
        | [c], [c'], hc, hc' =>
          obtain ⟨b, rfl⟩ := hc.2 0 none c rfl rfl
          obtain ⟨b', rfl⟩ := hc'.2 0 none c' rfl rfl
          simp at e e'
          subst e e'
          exact ⟨rfl, fun h => by simpa using h⟩
      | int k =>
        obtain rfl : ks = [some k] := by simpa using hf
        match cs, cs', hc, hc' with
        | [], _, hc, _ => have := hc.1; simp at this
        | _ :: _ :: _, _, hc, _ => have := hc.1; simp at this
        | [c], [], _, hc' => have := hc'.1; simp at this
        | [c], _ :: _ :: _, _, hc' => have := hc'.1; simp at this
        | [c], [c'], hc, hc' =>
          obtain ⟨b, rfl, hw⟩ := hc.2 0 (some k) c rfl rfl
          obtain ⟨b', rfl, hw'⟩ := hc'.2 0 (some k) c' rfl rfl
          simp [hw] at e
          simp [hw'] at e'
          subst e e'
          exact ⟨rfl, fun h => by simpa using h⟩
      | struct fs =>
        simp only [Bool.and_eq_true, beq_iff_eq, List.all_eq_true] at hf
        obtain ⟨⟨hl, hfs⟩, hcov⟩ := hf
        simp only [Bool.and_eq_true] at hk
        have hall : ∀ f ∈ fs.toList, (f.name != "_") = true ∧ P.keyTypeAt d f.type = true := fun f hf => by
          have := Array.all_eq_true'.1 hk.1.1 f (by simpa using hf)
          simpa using this
        have hn : fs.all (·.name != "_") = true := Array.all_eq_true'.2 fun f hfm => (hall f (by simpa using hfm)).1
        cases hys : fs.toList.mapM (fun f : Field => P.keyLits d f.type ((cs.drop f.offset).take (P.cellsOf f.type))) with
        | none => simp [hys] at e
        | some ys =>
          cases hys' : fs.toList.mapM (fun f : Field => P.keyLits d f.type ((cs'.drop f.offset).take (P.cellsOf f.type))) with
          | none => simp [hys'] at e'
          | some ys' =>
            simp only [hys, hc.1, hl, hn, and_self, if_true, Option.map_some] at e
            simp only [hys', hc'.1, hl, hn, and_self, if_true, Option.map_some] at e'
            injection e with e
            injection e' with e'
            subst e e'
            have hp : ∀ x ∈ fs.toList, ∀ y y', P.keyLits d x.type ((cs.drop x.offset).take (P.cellsOf x.type)) = some y → P.keyLits d x.type ((cs'.drop x.offset).take (P.cellsOf x.type)) = some y' → y.length = y'.length ∧ (y = y' → (cs.drop x.offset).take (P.cellsOf x.type) = (cs'.drop x.offset).take (P.cellsOf x.type)) := fun x hx y y' hy hy' =>
              flat_pair d x.type _ _ _ (hfs x hx) (hall x hx).2 (hc.sub x.offset (P.cellsOf x.type)) (hc'.sub x.offset (P.cellsOf x.type)) y y' hy hy'
            obtain ⟨e1, e2⟩ := mapM_pair fs.toList (fun x hx y y' hy hy' => (hp x hx y y' hy hy').1) ys ys' hys hys'
            refine ⟨e1, fun he => ?_⟩
            have e3 := e2 he
            refine List.ext_getElem? fun p => ?_
            by_cases hpl : p < ks.length
            · have hcp := hcov p (List.mem_range.2 hpl)
              rw [List.any_eq_true] at hcp
              obtain ⟨x, hx, hb⟩ := hcp
              simp only [Bool.and_eq_true, decide_eq_true_eq] at hb
              obtain ⟨y, hy⟩ := mapM_mem hys x hx
              obtain ⟨y', hy'⟩ := mapM_mem hys' x hx
              have e4 := e3 x hx
              rw [hy, hy'] at e4
              injection e4 with e4
              have e5 := (hp x hx y y' hy hy').2 e4
              have e6 : ((cs.drop x.offset).take (P.cellsOf x.type))[p - x.offset]? = ((cs'.drop x.offset).take (P.cellsOf x.type))[p - x.offset]? := by rw [e5]
              rw [List.getElem?_take_of_lt (by omega), List.getElem?_take_of_lt (by omega), List.getElem?_drop, List.getElem?_drop, show x.offset + (p - x.offset) = p by omega] at e6
              exact e6
            · rw [List.getElem?_eq_none (by rw [hc.1]; omega), List.getElem?_eq_none (by rw [hc'.1]; omega)]
      | array n e0 =>
        simp only [Bool.and_eq_true, beq_iff_eq, List.all_eq_true] at hf
        obtain ⟨⟨hl, hn⟩, hfs⟩ := hf
        cases hys : (List.range n).mapM (fun i => P.keyLits d e0 ((cs.drop (i * P.cellsOf e0)).take (P.cellsOf e0))) with
        | none => simp [hys] at e
        | some ys =>
          cases hys' : (List.range n).mapM (fun i => P.keyLits d e0 ((cs'.drop (i * P.cellsOf e0)).take (P.cellsOf e0))) with
          | none => simp [hys'] at e'
          | some ys' =>
            simp only [hys, hc.1, hl, if_true, Option.map_some] at e
            simp only [hys', hc'.1, hl, if_true, Option.map_some] at e'
            injection e with e
            injection e' with e'
            subst e e'
            have hp : ∀ x ∈ List.range n, ∀ y y', P.keyLits d e0 ((cs.drop (x * P.cellsOf e0)).take (P.cellsOf e0)) = some y → P.keyLits d e0 ((cs'.drop (x * P.cellsOf e0)).take (P.cellsOf e0)) = some y' → y.length = y'.length ∧ (y = y' → (cs.drop (x * P.cellsOf e0)).take (P.cellsOf e0) = (cs'.drop (x * P.cellsOf e0)).take (P.cellsOf e0)) := fun x hx y y' hy hy' =>
              flat_pair d e0 _ _ _ (hfs x hx) hk (hc.sub _ (P.cellsOf e0)) (hc'.sub _ (P.cellsOf e0)) y y' hy hy'
            obtain ⟨e1, e2⟩ := mapM_pair (List.range n) (fun x hx y y' hy hy' => (hp x hx y y' hy hy').1) ys ys' hys hys'
            refine ⟨e1, fun he => ?_⟩
            have e3 := e2 he
            refine List.ext_getElem? fun p => ?_
            by_cases hpl : p < ks.length
            · rcases Nat.eq_zero_or_pos (P.cellsOf e0) with hz | hz
              · rw [hz] at hn; omega
              · have hx : p / P.cellsOf e0 < n := by rw [Nat.div_lt_iff_lt_mul hz]; omega
                have hxr := List.mem_range.2 hx
                obtain ⟨y, hy⟩ := mapM_mem hys _ hxr
                obtain ⟨y', hy'⟩ := mapM_mem hys' _ hxr
                have e4 := e3 _ hxr
                rw [hy, hy'] at e4
                injection e4 with e4
                have e5 := (hp _ hxr y y' hy hy').2 e4
                have hm := Nat.mod_lt p hz
                have hdm := Nat.div_add_mod p (P.cellsOf e0)
                rw [Nat.mul_comm] at hdm
                have e6 : ((cs.drop (p / P.cellsOf e0 * P.cellsOf e0)).take (P.cellsOf e0))[p % P.cellsOf e0]? = ((cs'.drop (p / P.cellsOf e0 * P.cellsOf e0)).take (P.cellsOf e0))[p % P.cellsOf e0]? := by rw [e5]
                rw [List.getElem?_take_of_lt hm, List.getElem?_take_of_lt hm, List.getElem?_drop, List.getElem?_drop, hdm] at e6
                exact e6
            · rw [List.getElem?_eq_none (by rw [hc.1]; omega), List.getElem?_eq_none (by rw [hc'.1]; omega)]
      | _ => cases hf
theorem flat_formed {P : Program} (t : TypeId) (cs : List Value) {de : TypeDesc} (hu : P.underlying t = some de) (hag : isAggD de = true) (hl : cs.length = P.cellsOf t) : (Value.agg cs.toArray).formed P t = true := by
  unfold Value.formed
  rw [hu]
  cases de with
  | struct fs => simp [hl]
  | array n e => simp [hl]
  | _ => cases hag
/-- compared with another one. -/
theorem flat_eq {P : Program} (d m : Nat) (t : TypeId) (ks : List (Option IntKind)) (cs cs' : List Value) (hf : flatOK P m t ks = true) (hk : P.keyTypeAt m t = true) (hc : Kinded ks cs) (hc' : Kinded ks cs') {de : TypeDesc} (hu : P.underlying t = some de) (hag : isAggD de = true) (hl : ks.length = P.cellsOf t) (w : World) :
    ∃ r : Bool, (Op.equalIn (d + m) t (.agg cs.toArray) (.agg cs'.toArray)).run P w = .ok r w ∧ (r = true ↔ cs = cs') := by
  obtain ⟨la, hla⟩ := flat_lits m t ks cs hf hk hc
  obtain ⟨lb, hlb⟩ := flat_lits m t ks cs' hf hk hc'
  obtain ⟨r, hr, hiff⟩ := run_equalIn_deep d m t hk w m m _ _ la lb (flat_formed t cs hu hag (by rw [hc.1, hl])) (flat_formed t cs' hu hag (by rw [hc'.1, hl])) hla hlb
  refine ⟨r, hr, hiff.trans ⟨fun h => (flat_pair m t ks cs cs' hf hk hc hc' la lb hla hlb).2 h, fun h => ?_⟩⟩
  subst h
  rw [hla] at hlb
  exact Option.some.inj hlb
end Go.Proofs.Ytjihbjjekhncaaa
