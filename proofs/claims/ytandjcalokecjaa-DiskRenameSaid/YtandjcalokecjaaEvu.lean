import Derived.Test.YtandjcalokecjaaEvt
import Derived.WideShapes
/-! a law whose parameters are not looked at. -/
namespace Go.Proofs.Ytandjcalokecjaa.Ev
open Go Go.RowKit
set_option linter.unusedVariables false
set_option linter.unusedSimpArgs false
variable {P : Program} {ρ : Nat → Value} {E : Env} {w0 : World}

/-- what is known of a cell of a type. -/
def cellAV (P : Program) (t : TypeId) : AV := match P.underlying t with
  | some (.slice _) => .anySlice
  | some (.int k) => .unkI k
  | some .bool => .unkB
  | _ => .any
/-- what is known of a value of a type. -/
def valAV (P : Program) (t : TypeId) : Option AV := match P.underlying t with
  | some (.struct _) | some (.array _ _) => match P.cellTypes P.depth t with
    | some ts => cond (Nat.beq ts.length (P.cellsOf t)) (some (.agg (ts.map (cellAV P)))) none
    | none => none
  | _ => some (cellAV P t)
def valsAV (P : Program) : List TypeId → Option (List AV)
  | [] => some []
  | t :: r => match valAV P t, valsAV P r with
    | some a, some l => some (a :: l)
    | _, _ => none

theorem one_of_cell {r : Reach} {base : Nat} {t : TypeId} {v : Value} (h : Cell.okWide P w0 r base t v) : v.oneCell' = true := by
  unfold Cell.okWide at h
  split at h <;> first | rfl | skip
  unfold Cell.ok at h
  split at h <;> first | rfl | cases h
theorem slice_of_cell {r : Reach} {base : Nat} {t e : TypeId} {v : Value} (ht : P.underlying t = some (.slice e)) (h : Cell.okWide P w0 r base t v) : ∃ a n c, v = .slice a n c := by
  simp only [ht, Cell.okWide] at h
  cases v <;> simp_all [Cell.ok]
theorem int_of_cell {r : Reach} {base : Nat} {t : TypeId} {k : IntKind} {v : Value} (ht : P.underlying t = some (.int k)) (h : Cell.okWide P w0 r base t v) : ∃ n, v = .int k n := by
  simp only [ht, Cell.okWide] at h
  cases v <;> simp_all [Cell.ok]
theorem bool_of_cell {r : Reach} {base : Nat} {t : TypeId} {v : Value} (ht : P.underlying t = some .bool) (h : Cell.okWide P w0 r base t v) : ∃ b, v = .bool b := by
  simp only [ht, Cell.okWide] at h
  cases v <;> simp_all [Cell.ok]
theorem cellAV_sound {r : Reach} {base : Nat} {t : TypeId} {v : Value} (h : Cell.okWide P w0 r base t v) : VR ρ E (cellAV P t) v := by
  unfold cellAV
  split
  · rename_i e ht
    obtain ⟨a, n, c, rfl⟩ := slice_of_cell ht h
    exact .anySlice a n c
  · rename_i k ht
    obtain ⟨n, rfl⟩ := int_of_cell ht h
    exact .unkI k n
  · rename_i ht
    obtain ⟨b, rfl⟩ := bool_of_cell ht h
    exact .unkB b
  · exact .any v (one_of_cell h)
theorem cellsAV_sound {r : Reach} {base : Nat} : ∀ (ts : List TypeId) (vs : List Value), vs.length = ts.length → (∀ (i : Nat) v, vs[i]? = some v → ∃ u, ts[i]? = some u ∧ Cell.okWide P w0 r base u v) → VRs ρ E (ts.map (cellAV P)) vs
  | [], [], _, _ => .nil
  | t :: ts, v :: vs, hl, h => by
    refine .cons _ _ _ _ ?_ (cellsAV_sound ts vs (by simpa using hl) fun i v hv => by simpa using h (i + 1) v (by simpa using hv))
    obtain ⟨u, hu, hc⟩ := h 0 v rfl
    simp only [List.getElem?_cons_zero, Option.some.injEq] at hu
    subst hu
    exact cellAV_sound hc
  | [], _ :: _, hl, _ => by simp at hl
  | _ :: _, [], hl, _ => by simp at hl
theorem valAV_sound {r : Reach} {base : Nat} {t : TypeId} {a : AV} {v : Value} (ha : valAV P t = some a) (h : Value.okWide P w0 r base t v) : VR ρ E a v := by
  have key : (∃ cs, v = .agg cs ∧ cs.size = P.cellsOf t ∧ Row.okWide P w0 r base t cs) → (match P.cellTypes P.depth t with
    | some ts => cond (Nat.beq ts.length (P.cellsOf t)) (some (AV.agg (ts.map (cellAV P)))) none
    | none => none) = some a → VR ρ E a v := by
    rintro ⟨cs, rfl, hs, ts, hts, _, hc⟩ hb
    rw [hts] at hb
    simp only at hb
    cases hn : Nat.beq ts.length (P.cellsOf t) with
    | false => rw [hn] at hb; cases hb
    | true =>
      rw [hn] at hb
      cases hb
      have hl : ts.length = P.cellsOf t := Nat.eq_of_beq_eq_true hn
      refine .agg _ _ (cellsAV_sound (w0 := w0) (r := r) (base := base) ts cs.toList (by simp [hs, hl]) fun i v hv => ?_)
      have hi : i < ts.length := by
        obtain ⟨hi, _⟩ := List.getElem?_eq_some_iff.1 hv
        simpa [hs, hl] using hi
      obtain ⟨u, hu, hc⟩ := hc i v (by simpa using hv)
      rw [Nat.mod_eq_of_lt hi] at hu
      exact ⟨u, hu, hc⟩
  unfold valAV at ha
  unfold Value.okWide at h
  split at ha
  · rename_i fs ht
    rw [ht] at h
    exact key h ha
  · rename_i n e ht
    rw [ht] at h
    exact key h ha
  · rename_i n1 n2
    cases ha
    split at h
    · rename_i fs ht; exact (n1 _ ht).elim
    · rename_i n e ht; exact (n2 _ _ ht).elim
    · exact cellAV_sound h
theorem valsAV_sound {r : Reach} {base : Nat} : ∀ (ts : List TypeId) (as : List AV) (vs : List Value), valsAV P ts = some as → vs.length = ts.length → (∀ (j : Nat) t v, ts[j]? = some t → vs[j]? = some v → Value.okWide P w0 r base t v) → VRs ρ E as vs
  | [], _, [], ha, _, _ => by cases ha; exact .nil
  | t :: ts, _, v :: vs, ha, hl, h => by
    unfold valsAV at ha
    split at ha
    · rename_i a l h1 h2
      cases ha
      exact .cons _ _ _ _ (valAV_sound h1 (h 0 t v rfl rfl)) (valsAV_sound ts l vs h2 (by simpa using hl) fun j t v ht hv => h (j + 1) t v (by simpa using ht) (by simpa using hv))
    · cases ha
  | [], _, _ :: _, _, hl, _ => by simp at hl
  | _ :: _, _, [], _, hl, _ => by simp at hl

/-- a law answers true, whatever comes. -/
noncomputable def evLaw (P : Program) (o : Nat → Bool) (n f : Nat) (ts : List TypeId) : Bool := match valsAV P ts with
  | some as => evCall P o n (.fn f) as AH.none fun a _ => isTrue a
  | none => false
theorem ev_law (hP : Plain P) (hm : P.follows .mixedOrders = true) {o : Nat → Bool} (ho : Known P o) {n f : Nat} {ts : List TypeId} (h : evLaw P o n f ts = true) {r : Reach} {base : Nat} {vs : Array Value} (hl : vs.size = ts.length) (hv : ∀ (j : Nat) t v, ts[j]? = some t → vs[j]? = some v → Value.okWide P w0 r base t v) (w : World) :
    Calls P f vs w fun e w' => e = .returned (.bool true) ∧ Below w.heap.size w w' := by
  unfold evLaw at h
  split at h
  · rename_i as has
    exact ev_true hP hm ho h (valsAV_sound ts as vs.toList has (by simpa using hl) fun j t v ht hv' => hv j t v ht (by simpa using hv')) w
  · cases h
/-- what may be known of a value of a type, where a number is below nought or not. -/
def halves (P : Program) (t : TypeId) : Option (List AV) := match P.underlying t with
  | some (.int .i64) => some [.half true, .half false]
  | _ => match valAV P t with | some a => some [a] | none => none
def halvesAll (P : Program) : List TypeId → Option (List (List AV))
  | [] => some [[]]
  | t :: r => match halves P t, halvesAll P r with
    | some l, some m => some (l.flatMap fun a => m.map fun s => a :: s)
    | _, _ => none
theorem halves_sound {r : Reach} {base : Nat} {t : TypeId} {l : List AV} {v : Value} (ha : halves P t = some l) (h : Value.okWide P w0 r base t v) : ∃ a, a ∈ l ∧ VR ρ E a v := by
  unfold halves at ha
  split at ha
  · rename_i ht
    cases ha
    have h' : Cell.okWide P w0 r base t v := by
      unfold Value.okWide at h
      rw [ht] at h
      exact h
    obtain ⟨n, rfl⟩ := int_of_cell ht h'
    exact ⟨.half (decide (n < 0)), by cases decide (n < 0) <;> simp, .half n⟩
  · split at ha
    · rename_i a h1
      cases ha
      exact ⟨a, by simp, valAV_sound h1 h⟩
    · cases ha
theorem halvesAll_sound {r : Reach} {base : Nat} : ∀ (ts : List TypeId) (l : List (List AV)) (vs : List Value), halvesAll P ts = some l → vs.length = ts.length → (∀ (j : Nat) t v, ts[j]? = some t → vs[j]? = some v → Value.okWide P w0 r base t v) → ∃ as, as ∈ l ∧ VRs ρ E as vs
  | [], _, [], ha, _, _ => by cases ha; exact ⟨[], by simp, .nil⟩
  | t :: ts, _, v :: vs, ha, hl, h => by
    unfold halvesAll at ha
    split at ha
    · rename_i l m h1 h2
      cases ha
      obtain ⟨a, ha1, ha2⟩ := halves_sound h1 (h 0 t v rfl rfl)
      obtain ⟨s, hs1, hs2⟩ := halvesAll_sound ts m vs h2 (by simpa using hl) fun j t v ht hv => h (j + 1) t v (by simpa using ht) (by simpa using hv)
      exact ⟨a :: s, List.mem_flatMap.2 ⟨a, ha1, List.mem_map.2 ⟨s, hs1, rfl⟩⟩, .cons _ _ _ _ ha2 hs2⟩
    · cases ha
  | [], _, _ :: _, _, hl, _ => by simp at hl
  | _ :: _, _, [], _, hl, _ => by simp at hl
/-- a law answers true, whatever comes, looked at by halves. -/
noncomputable def evLawH (P : Program) (o : Nat → Bool) (n f : Nat) (ts : List TypeId) : Bool := match halvesAll P ts with
  | some l => l.all fun as => evCall P o n (.fn f) as AH.none fun a _ => isTrue a
  | none => false
theorem ev_lawH (hP : Plain P) (hm : P.follows .mixedOrders = true) {o : Nat → Bool} (ho : Known P o) {n f : Nat} {ts : List TypeId} (h : evLawH P o n f ts = true) {r : Reach} {base : Nat} {vs : Array Value} (hl : vs.size = ts.length) (hv : ∀ (j : Nat) t v, ts[j]? = some t → vs[j]? = some v → Value.okWide P w0 r base t v) (w : World) :
    Calls P f vs w fun e w' => e = .returned (.bool true) ∧ Below w.heap.size w w' := by
  unfold evLawH at h
  split at h
  · rename_i l hl'
    obtain ⟨as, h1, h2⟩ := halvesAll_sound (w0 := w0) (r := r) (base := base) (ρ := fun _ => Value.bool false) (E := noEnv) ts l vs.toList hl' (by simpa using hl) fun j t v ht hv' => hv j t v ht (by simpa using hv')
    exact ev_true hP hm ho (List.all_eq_true.1 h as h1) h2 w
  · cases h
/-- no function of this name. -/
def plainB (P : Program) : Bool := P.funcs.toList.all fun fn => !(fn.name == "runtime.NumGoroutine")
theorem plain_of (h : plainB P = true) : Plain P := by
  intro f fn hf _
  have h1 := List.all_eq_true.1 h fn (by
    rw [← Array.getElem?_toList] at hf
    exact List.mem_of_getElem? hf)
  simpa using h1
end Go.Proofs.Ytandjcalokecjaa.Ev
