import Derived.Test.YtkdmlpmjfnjnmaaSvl
/-! operations that write: each is what it is. -/
namespace Go.Proofs.Ytkdmlpmjfnjnmaa.Sv
open Go Go.RowKit
set_option linter.unusedVariables false
set_option linter.unusedSimpArgs false
variable {P : Program} {ρ : Ctx} {E : Env} {H : AH} {w : World}

/-- what an operation does. -/
def Does (P : Program) (ρ : Ctx) (E : Env) (H : AH) (w : World) (s : Sem Next) (x : AV) (H' : AH) : Prop :=
  ∃ v w' E', (s.run P w = .ok (.value v) w' ∨ (s.run P w = .ok .skip w' ∧ v = undef)) ∧ VR ρ E' x v ∧ Rel ρ E' H' w' ∧ Ext E H w E' H' w'
theorem DoesV.does {s : Sem Value} {x : AV} {H' : AH} (h : DoesV P ρ E H w s x H') : Does P ρ E H w (do pure (Next.value (← s))) x H' := by
  obtain ⟨v, w', E', h1, h2, h3, h4⟩ := h
  exact ⟨v, w', E', .inl (run_v h1), h2, h3, h4⟩
theorem does_unit {s : Sem Unit} {w' : World} {H' : AH} (h : s.run P w = .ok () w') (hR : Rel ρ E H' w') (hX : Ext E H w E H' w') : Does P ρ E H w (do s; pure Next.skip) (.tuple []) H' :=
  ⟨undef, w', E, .inr ⟨by simp [h], rfl⟩, VR.undef, hR, hX⟩

theorem run_strish {b off : Nat} {c : Array Value} {elem : TypeId} {fr : Nat × Nat} (hw : w.heap[b]? = some (.cells c elem fr)) (hfr : fr = (0, 0) ∨ fr = (c.size, c.size + 1)) :
    ∃ w', (markStringish ⟨b, off, none⟩).run P w = .ok () w' ∧ Turned w w' b (.cells c elem (c.size, c.size + 1)) := by
  have hs : w.shape? b = some (elem, c.size) := by unfold World.shape?; rw [hw]
  refine ⟨{ w with heap := w.heap.modify b fun | .cells c elem (lo, hi) => .cells c elem (if lo == hi then (c.size, c.size + 1) else (min lo c.size, max hi (c.size + 1))) | o => o }, ?_, rfl, rfl, rfl, by simp, ?_, fun j hj => ?_⟩
  · simp only [markStringish, shape, freeze, Sem.run_bind, Sem.run, hs, Result.andThen_ok]
    congr 1
    simp only [World.freeze, Nat.one_ne_zero, if_false]
    congr 1
    apply Array.ext_getElem?
    intro i
    rw [Array.getElem?_modify, Array.getElem?_modify]
    by_cases hi : b = i
    · subst hi; simp [hw]
    · simp [hi]
  · simp only [Array.getElem?_modify, if_true, hw, Option.map_some]
    rcases hfr with rfl | rfl
    · simp
    · simp
  · simp only [Array.getElem?_modify, if_neg (Ne.symm hj)]

theorem elems_len {n : Nat} {x : AV} {m : Nat} {vs : List AV} (hvs : elems H n x m = some vs) : vs.length = m * n := by
  unfold elems at hvs
  split at hvs
  · simp at hvs; subst hvs; simp
  · simp at hvs; subst hvs; simp
  · rcases cond_split (p := fun z => z = some vs) hvs with ⟨_, hvs⟩ | ⟨_, hvs⟩
    · split at hvs
      · obtain ⟨rfl, hx⟩ := span_spec hvs
        simp; omega
      · cases hvs
    · cases hvs
  · rename_i st
    rcases cond_split (p := fun z => z = some vs) hvs with ⟨hn1, hvs⟩ | ⟨_, hvs⟩
    · have hn1 := beq_iff'.1 hn1
      subst hn1
      obtain ⟨rfl, hx⟩ := firsts_spec hvs
      simp at hx
      simp; omega
    · cases hvs
  · cases hvs
theorem rows_of_cells {z n off b : Nat} {f : Nat → List AV} {c : Array Value} {elem : TypeId} {fr : Nat × Nat} (hw : w.heap[b]? = some (.cells c elem fr)) (hsz : off + n * z ≤ c.size) (hrow : ∀ i, i < n → VRs ρ E (f i) ((c.toList.drop (off + i * z)).take z)) (cap : Nat) :
    ∃ us : Array Value, us.size = n * z ∧ (∀ i, i < n → VRs ρ E (f i) ((us.toList.drop (i * z)).take z)) ∧ ∀ W : World, W.heap = w.heap → (Builtin.lenOf (.slice (some ⟨b, off, none⟩) n cap)).run P W = .ok n W ∧ (Builtin.firstCells z n (.slice (some ⟨b, off, none⟩) n cap)).run P W = .ok us W := by
  refine ⟨((c.toList.drop off).take (n * z)).toArray, by simp; omega, fun i hi => ?_, fun W hW => ⟨by simp [Builtin.lenOf], ?_⟩⟩
  · have h1 : (i + 1) * z ≤ n * z := Nat.mul_le_mul_right z hi
    rw [Nat.succ_mul] at h1
    have := hrow i hi
    simp only
    rw [List.drop_take, List.drop_drop, List.take_take, Nat.min_eq_left (by omega)]
    exact this
  · have := run_cells (P := P) (w := W) (b := b) (off := off) (n := n * z) (by rw [hW]; exact hw) (by omega)
    simp [Builtin.firstCells, this]
theorem rowsOf_sound (hR : Rel ρ E H w) {z : Nat} {x : AV} {v : Value} {K : Nat → (Nat → List AV) → Bool} (h : rowsOf H z x K = true) (hv : VR ρ E x v) :
    ∃ m g, ∃ us : Array Value, K m g = true ∧ us.size = m * z ∧ (∀ i, i < m → VRs ρ E (g i) ((us.toList.drop (i * z)).take z)) ∧ ∀ W : World, W.heap = w.heap → (Builtin.lenOf v).run P W = .ok m W ∧ (Builtin.firstCells z m v).run P W = .ok us W := by
  have hnone : ∀ (a : Option Addr) (c : Nat) (g : Nat → List AV), K 0 g = true → ∃ m g, ∃ us : Array Value, K m g = true ∧ us.size = m * z ∧ (∀ i, i < m → VRs ρ E (g i) ((us.toList.drop (i * z)).take z)) ∧ ∀ W : World, W.heap = w.heap → (Builtin.lenOf (.slice a 0 c)).run P W = .ok m W ∧ (Builtin.firstCells z m (.slice a 0 c)).run P W = .ok us W := fun a c g hK =>
    ⟨0, g, #[], hK, by simp, fun i hi => by omega, fun W _ => ⟨by simp [Builtin.lenOf], by cases a <;> simp [Builtin.firstCells, loadCells, loadCellsFrom]⟩⟩
  unfold rowsOf at h
  split at h
  · rename_i z' m g
    obtain ⟨hzz, h'⟩ := cond_true' h
    clear h
    obtain rfl := beq_iff'.1 hzz
    cases hv with
    | data _ _ _ b off cap c elem fr hd hcap hsz hlen hrow =>
      obtain ⟨us, k1, k2, k3⟩ := rows_of_cells (P := P) (E := E) (hR.row hd) hsz (fun i hi => (hrow i hi).vra) cap
      exact ⟨m, g, us, h', k1, k2, k3⟩
    | data0 _ _ a c => exact hnone _ _ _ h'
    | dataN _ _ => exact hnone _ _ _ h'
  · rename_i b m
    split at h
    · rename_i z' n g hs
      obtain ⟨hzz, h'⟩ := cond_true' h
      clear h
      obtain rfl := beq_iff'.1 hzz
      obtain ⟨hmn, h⟩ := fork_true' h'
      have hmn := of_decide_eq_true hmn
      cases hv with
      | gsl _ _ cap r hb hc hcs =>
        obtain ⟨c, elem, fr, hw, e1, e2, e3, e4, e5, e6, e8⟩ := seq_rel hR hs hb
        have hle : m * z ≤ n * z := Nat.mul_le_mul_right z hmn
        obtain ⟨us, k1, k2, k3⟩ := rows_of_cells (P := P) (ρ := ρ) (E := E) (z := z) (n := m) (off := 0) (f := g) hw (by omega) (fun i hi => by rw [Nat.zero_add]; exact e8 i (by omega)) cap
        exact ⟨m, g, us, h, k1, k2, k3⟩
      | gsl0 _ a => exact hnone _ _ _ h
    · cases h
  · rename_i b lo m
    split at h
    · rename_i z' n g hs
      obtain ⟨hzz, h'⟩ := cond_true' h
      clear h
      obtain rfl := beq_iff'.1 hzz
      obtain ⟨hmn, h⟩ := fork_true' h'
      have hmn := of_decide_eq_true hmn
      cases hv with
      | part _ _ _ cap a r hb hc hq ha =>
        obtain ⟨c, elem, fr, hw, e1, e2, e3, e4, e5, e6, e8⟩ := seq_rel hR hs hb
        rcases ha with hc0 | rfl
        · obtain rfl : m = 0 := by omega
          exact hnone _ _ _ h
        · have hle : (lo + m) * z ≤ n * z := Nat.mul_le_mul_right z hmn
          rw [Nat.add_mul] at hle
          obtain ⟨us, k1, k2, k3⟩ := rows_of_cells (P := P) (ρ := ρ) (E := E) (z := z) (n := m) (off := lo * z) (f := fun i => g (lo + i)) hw (by omega) (fun i hi => by rw [← Nat.add_mul]; exact e8 (lo + i) (by omega)) cap
          refine ⟨m, _, us, h, k1, k2, ?_⟩
          rw [e4]
          exact k3
    · cases h
  · split at h
    · rename_i m hm
      split at h
      · rename_i vs hvs
        obtain ⟨us, hrun, hV, hsz⟩ := elems_sound (P := P) hR hvs hv
        have hl := elems_len hvs
        exact ⟨m, _, us, h, by omega, fun i hi => (hV.drop (i * z)).take z, fun W hW => ⟨lenOf_sound hm hv W, hrun W hW⟩⟩
      · cases h
    · cases h
theorem setRow_rows {z m i o : Nat} {vs : List AV} {us L L' : List Value} {f : Nat → List AV} (hi : i < m) (ho : o + vs.length ≤ z) (hL : m * z ≤ L.length) (hv : VRs ρ E vs us) (hf : ∀ j, j < m → (f j).length = z ∧ VRs ρ E (f j) ((L.drop (j * z)).take z))
    (hL' : L' = L.take (i * z + o) ++ us ++ L.drop (i * z + o + us.length)) : ∀ j, j < m → (setRow i o vs f j).length = z ∧ VRs ρ E (setRow i o vs f j) ((L'.drop (j * z)).take z) := fun j hj => by
  have hlen := hv.length
  have hiz : (i + 1) * z ≤ m * z := Nat.mul_le_mul_right z hi
  have hjz : (j + 1) * z ≤ m * z := Nat.mul_le_mul_right z hj
  rw [Nat.succ_mul] at hiz hjz
  have hget : ∀ k, L'[k]? = if i * z + o ≤ k ∧ k < i * z + o + us.length then us[k - (i * z + o)]? else L[k]? := fun k => by
    rw [hL', List.append_assoc, List.getElem?_append, List.length_take, Nat.min_eq_left (by omega)]
    by_cases h1 : k < i * z + o
    · rw [if_pos h1, if_neg (by omega), List.getElem?_take, if_pos h1]
    · rw [if_neg h1, List.getElem?_append]
      by_cases h2 : k - (i * z + o) < us.length
      · rw [if_pos h2, if_pos (by omega)]
      · rw [if_neg h2, if_neg (by omega), List.getElem?_drop]
        congr 1; omega
  unfold setRow
  by_cases hji : j = i
  · subst hji
    rw [if_pos rfl]
    obtain ⟨h1, h2⟩ := hf j hj
    refine ⟨by simp; omega, ?_⟩
    have h3 := h2.wset hv (o := o) (l' := (f j).take o ++ vs ++ (f j).drop (o + vs.length)) (.inr ⟨by omega, rfl⟩)
    have e : (L'.drop (j * z)).take z = ((L.drop (j * z)).take z).take o ++ us ++ ((L.drop (j * z)).take z).drop (o + us.length) := by
      apply List.ext_getElem?
      intro k
      rw [List.getElem?_take, List.getElem?_drop, hget, List.append_assoc, List.getElem?_append, List.length_take, List.length_take, List.length_drop, List.getElem?_append, List.getElem?_take, List.getElem?_drop, List.getElem?_take, List.getElem?_take, List.getElem?_drop, List.getElem?_drop]
      rw [Nat.min_eq_left (a := o) (by omega)]
      by_cases hk : k < z
      · rw [if_pos hk]
        by_cases h1 : k < o
        · rw [if_neg (by omega), if_pos h1, if_pos h1, if_pos (by omega)]
        · rw [if_neg (c := k < o) h1]
          by_cases h2 : k - o < us.length
          · rw [if_pos (by omega), if_pos h2]
            congr 1; omega
          · rw [if_neg (by omega), if_neg h2, if_pos (by omega)]
            congr 1; omega
      · rw [if_neg hk, if_neg (by omega), if_neg (by omega), if_neg (by omega)]
    rw [e]
    exact h3
  · rw [if_neg hji]
    obtain ⟨h1, h2⟩ := hf j hj
    refine ⟨h1, ?_⟩
    have e : (L'.drop (j * z)).take z = (L.drop (j * z)).take z := by
      apply List.ext_getElem?
      intro k
      rw [List.getElem?_take, List.getElem?_take, List.getElem?_drop, List.getElem?_drop]
      by_cases hk : k < z
      · rw [if_pos hk, if_pos hk, hget, if_neg]
        rcases Nat.lt_or_ge j i with h | h
        · have : (j + 1) * z ≤ i * z := Nat.mul_le_mul_right z h
          rw [Nat.succ_mul] at this
          omega
        · have : (i + 1) * z ≤ j * z := Nat.mul_le_mul_right z (by omega)
          rw [Nat.succ_mul] at this
          omega
      · rw [if_neg hk, if_neg hk]
    rw [e]
    exact h2
theorem seq_write (hρ : ∀ i, (ρ i).oneCell' = true) (hR : Rel ρ E H w) {b z m i o : Nat} {f : Nat → List AV} (hs : seqAt H b = some (z, m, f)) {r : RB} (hb : E b = some r) {vs : List AV} {us : List Value} (hv : VRs ρ E vs us) (hl : leafy vs = true) (ho : o + vs.length ≤ z) (hi : i < m) {K : AH → Bool}
    (h : H.put b (.seq b z m (setRow i o vs f)) K = true) : ∃ H' w', K H' = true ∧ (storeCells ⟨r.blk, i * r.esz + o, none⟩ us).run P w = .ok () w' ∧ Rel ρ E H' w' ∧ Ext E H w E H' w' := by
  obtain ⟨c, elem, fr, hw, e1, e2, e3, e4, e5, e6, e8⟩ := seq_rel hR hs hb
  obtain ⟨hcl, hmem, _⟩ := seq_one hs
  have hk := seq_get hs
  have hone := leafy_one hρ hl hv
  have hlen := hv.length
  have hiz : (i + 1) * z ≤ m * z := Nat.mul_le_mul_right z hi
  rw [Nat.succ_mul] at hiz
  have hal : Alone E H b := fun r1 hr1 b' r' hb' e hne => by
    rw [hb] at hr1; cases hr1
    cases hc' : H.clsOf b' with
    | none => rfl
    | some d =>
      exfalso
      have := hR.inj b' b r' r d b hb' hb e hc' hcl
      subst this
      obtain ⟨_, l, hl, hjl, _⟩ := hR.mem b' r' d hb' hc'
      rw [hmem] at hl; cases hl
      simp at hjl
      exact hne hjl
  obtain ⟨c', ht, hc', hcs⟩ := turned_cells us (i * z + o) c w hw (by omega)
  have hrun : (storeCells ⟨r.blk, i * z + o, none⟩ us).run P w = .ok () (w.setCells r.blk (i * z + o) us) := by
    have := run_storeCells_cells (P := P) r.blk (i * z + o) us 0 w (fun j hj => ?_) (fun j hj => ?_) hone
    · simpa using this
    · rw [Nat.add_zero, World.cell?, hw]
      have : i * z + o + j < c.size := by omega
      simp [this]
    · rw [World.frozen?, hw]
      have : i * z + o + j < c.size := by omega
      rcases e2 with rfl | rfl <;> simp <;> omega
  obtain ⟨H2, h3, hn2, hm2, hg2⟩ := put_spec h
  have hrows := setRow_rows (ρ := ρ) (E := E) (L := c.toList) (L' := c'.toList) hi ho (by simpa using e3) hv (fun j hj => ⟨e6 j hj, e8 j hj⟩) hc'
  obtain ⟨hR2, hX2⟩ := hR.turn hb hal hcl (k := .seq b z m (setRow i o vs f)) rfl hn2 hm2 hg2 ht ⟨c', elem, fr, rfl, by omega, by rw [hcs]; exact e2, by omega, e4, e5, fun j hj => (hrows j hj).1, fun j hj => (hrows j hj).2⟩
  exact ⟨H2, _, h3, by rw [e4]; exact hrun, hR2, hX2⟩
theorem repeats_row {l : List AV} : ∀ {n i : Nat}, i < n → ((repeats l n).drop (i * l.length)).take l.length = l
  | 0, i, h => by omega
  | n + 1, 0, h => by
    show ((l ++ repeats l n).drop _).take _ = l
    rw [Nat.zero_mul, List.drop_zero, List.take_left]
  | n + 1, i + 1, h => by
    show ((l ++ repeats l n).drop _).take _ = l
    rw [Nat.succ_mul, Nat.add_comm, ← List.drop_drop, List.drop_left]
    exact repeats_row (Nat.lt_of_succ_lt_succ h)
theorem seq_over (hρ : ∀ i, (ρ i).oneCell' = true) (hR : Rel ρ E H w) {b z n k m : Nat} {f : Nat → List AV} (hs : seqAt H b = some (z, n, f)) {r : RB} (hb : E b = some r) {g : Nat → List AV} {us : List Value} (hok : RowsOK z m g) (hul : us.length = m * z) (hV : ∀ i, i < m → VRs ρ E (g i) ((us.drop (i * z)).take z)) (hkm : k + m ≤ n) {K : AH → Bool}
    (h : H.put b (.seq b z n (over k m f g)) K = true) : ∃ H' w', K H' = true ∧ (storeCells ⟨r.blk, k * r.esz, none⟩ us).run P w = .ok () w' ∧ Rel ρ E H' w' ∧ Ext E H w E H' w' := by
  obtain ⟨c, elem, fr, hw, e1, e2, e3, e4, e5, e6, e8⟩ := seq_rel hR hs hb
  obtain ⟨hcl, hmem, _⟩ := seq_one hs
  have hone := rows_one hρ e5 hul hok hV
  have hkmn : (k + m) * z ≤ n * z := Nat.mul_le_mul_right z hkm
  rw [Nat.add_mul] at hkmn
  have hal : Alone E H b := fun r1 hr1 b' r' hb' e hne => by
    rw [hb] at hr1; cases hr1
    cases hc' : H.clsOf b' with
    | none => rfl
    | some d =>
      exfalso
      have := hR.inj b' b r' r d b hb' hb e hc' hcl
      subst this
      obtain ⟨_, l, hl, hjl, _⟩ := hR.mem b' r' d hb' hc'
      rw [hmem] at hl; cases hl
      simp at hjl
      exact hne hjl
  obtain ⟨c', ht, hc', hcs⟩ := turned_cells us (k * z) c w hw (by omega)
  have hrun : (storeCells ⟨r.blk, k * z, none⟩ us).run P w = .ok () (w.setCells r.blk (k * z) us) := by
    have := run_storeCells_cells (P := P) r.blk (k * z) us 0 w (fun j hj => ?_) (fun j hj => ?_) hone
    · simpa using this
    · rw [Nat.add_zero, World.cell?, hw]
      have : k * z + j < c.size := by omega
      simp [this]
    · rw [World.frozen?, hw]
      have : k * z + j < c.size := by omega
      rcases e2 with rfl | rfl <;> simp <;> omega
  obtain ⟨H2, h3, hn2, hm2, hg2⟩ := put_spec h
  have hrows := over_rows (ρ := ρ) (E := E) (L := c.toList) (L' := c'.toList) (by simpa using e3) hul hkm (fun j hj => ⟨e6 j hj, e8 j hj⟩) (fun i hi => ⟨(hok i hi).1, hV i hi⟩) hc'
  obtain ⟨hR2, hX2⟩ := hR.turn hb hal hcl (k := .seq b z n (over k m f g)) rfl hn2 hm2 hg2 ht ⟨c', elem, fr, rfl, by omega, by rw [hcs]; exact e2, by omega, e4, e5, fun j hj => (hrows j hj).1, fun j hj => (hrows j hj).2⟩
  exact ⟨H2, _, h3, by rw [e4]; exact hrun, hR2, hX2⟩
theorem cellsAt_cls {b : Nat} {g : Option Nat} {cs : List AV} (h : cellsAt H b = some (g, cs)) : ∃ c, H.clsOf b = some c := by
  unfold cellsAt at h
  split at h
  · rename_i c g' cs' e
    exact ⟨c, by simp [AH.clsOf, e, Blk.cls]⟩
  · cases h
theorem evE_sound (hρ : ∀ i, (ρ i).oneCell' = true) (hR : Rel ρ E H w) {tmps : List AV} {a : Act} {o : Oper} (hT : TmpOK ρ E tmps a o.op.operands) {K : AV → AH → Bool} (h : evE P H tmps o K = true) :
    ∃ q H', K q H' = true ∧ Does P ρ E H w (execOp a.eval o) q H' := by
  obtain ⟨dst, op, ty, pos, after, guard⟩ := o
  cases op
  case store t x y =>
    simp only [evE] at h
    split at h
    · rename_i b off q n h1 h2 hn
      obtain ⟨hc, hK⟩ := cond_true' h
      rw [Bool.and_eq_true, Bool.and_eq_true] at hc
      have c1 := beq_iff'.1 hc.2.1
      have e1 := aop_ok hT (by simp [Op.operands]) h1
      have e2 := aop_ok hT (by simp [Op.operands]) h2
      generalize hx : a.eval x = vx at e1
      cases e1 with
      | ptr _ _ r hb =>
        have hcs := cells_sound hρ e2 hc.1
        obtain ⟨H', w', h3, hrun, hR', hX⟩ := write_sound (P := P) hρ hR hb hcs hK
        have hsz : (a.eval y).cells.size = n := by have := hcs.length; simp at this; omega
        refine ⟨_, _, h3, does_unit (s := Instr.storeAt t (a.eval x) (a.eval y)) ?_ hR' hX⟩
        simp [Instr.storeAt, hx, Instr.sureAddr, storeVar, hsz, run_size hn, hrun]
    · rename_i b i o q n h1 h2 hn
      split at h
      · rename_i z m f hs
        obtain ⟨hc, h'⟩ := cond_true' h
        clear h
        simp only [Bool.and_eq_true] at hc
        obtain ⟨hc1, hc2, hc3, hc4, hc5⟩ := hc
        have hc2 := beq_iff'.1 hc2
        have hc4 := ble' hc4
        obtain ⟨hi, h⟩ := fork_true' h'
        clear h'
        have hi := of_decide_eq_true hi
        have e1 := aop_ok hT (by simp [Op.operands]) h1
        have e2 := aop_ok hT (by simp [Op.operands]) h2
        generalize hx : a.eval x = vx at e1
        cases e1 with
        | gptr _ _ _ r hb =>
          have hcs := cells_sound hρ e2 hc1
          obtain ⟨H', w', h3, hrun, hR', hX⟩ := seq_write (P := P) hρ hR hs hb hcs hc5 (by omega) hi h
          have hsz : (a.eval y).cells.size = n := by have := hcs.length; simp at this; omega
          refine ⟨_, _, h3, does_unit (s := Instr.storeAt t (a.eval x) (a.eval y)) ?_ hR' hX⟩
          simp [Instr.storeAt, hx, Instr.sureAddr, storeVar, hsz, run_size hn, hrun]
      · cases h
    · cases h
  case makeSlice t l c =>
    simp only [evE] at h
    split at h
    · rename_i e j N0 j' m hu h1 h2
      split at h
      · rename_i z zv i hz hzv hi
        obtain ⟨hc, h'⟩ := cond_true' h
        clear h
        simp only [Bool.and_eq_true] at hc
        obtain ⟨c1, c2, c3⟩ := hc
        have c1 := beq_iff'.1 c1; have c2 := blt' c2; have c3 := blt' c3
        obtain ⟨hf, h⟩ := fork_true' h'
        clear h'
        obtain ⟨rfl, k0, k1⟩ := of_decide_eq_true hf
        clear hf
        obtain ⟨N, rfl⟩ := Int.eq_ofNat_of_zero_le k0
        have k1 : N < 1073741824 := by omega
        rw [Int.toNat_natCast] at h
        have e1 := aop_ok hT (by simp [Op.operands]) h1
        have e2 := aop_ok hT (by simp [Op.operands]) h2
        generalize hx : a.eval l = vx at e1
        generalize hy : a.eval c = vy at e2
        cases e1
        cases e2
        obtain ⟨v, hr, hv⟩ := zero_any (ρ := ρ) (E := E) hzv
        have hvc := cells_sound hρ hv (zero_noTop hzv)
        have hvl : v.cells.toList.length = z := by have := hvc.length; omega
        have hvs : v.cells.size = z := by simpa using hvl
        have hcell : ∀ i, i < N → (((((Array.range (N * z)).map (fun x => v.cells[x % v.cells.size]!)).toList).drop (i * z)).take z) = v.cells.toList := fun i hi => by
          rw [range_map _ (by omega), hvl]
          apply List.ext_getElem?
          intro q
          have hle : i * z + z ≤ N * z := by have := Nat.mul_le_mul_right z (show i + 1 ≤ N from hi); rwa [Nat.succ_mul] at this
          rw [List.getElem?_take]
          by_cases hq : q < z
          · rw [if_pos hq, List.getElem?_drop, List.getElem?_map, List.getElem?_range (by omega), Option.map_some, Nat.mul_comm i z, Nat.mul_add_mod, Nat.mod_eq_of_lt hq]
            simp [List.getElem?_eq_getElem (show q < v.cells.toList.length by omega), List.getD_eq_getElem?_getD]
          · rw [if_neg hq, List.getElem?_eq_none (by omega)]
        have hsize : ((Array.range (N * z)).map (fun x => v.cells[x % v.cells.size]!)).size = N * z := by simp
        obtain ⟨H', E', g1, g2, g3, g4⟩ := hR.make (K := fun H1 => K (.gsl H.next N) H1) h (pushed_new w (.cells ((Array.range (N * z)).map (fun x => v.cells[x % v.cells.size]!)) e)) (sz := N * z) (z := z) fun E' hE hb =>
          ⟨_, e, (0, 0), rfl, hsize, .inl rfl, by rw [hsize]; exact Nat.le_refl _, rfl, c2, fun _ _ => c1, fun i hi => by
            rw [hcell i hi]
            exact hvc.mono hE⟩
        refine ⟨_, H', g1, DoesV.does (s := Instr.makeSlice t (a.eval l) (a.eval c)) ⟨.slice (some ⟨w.heap.size, 0, none⟩) N N, _, E', ?_, .gsl _ _ _ _ g4 (Nat.le_refl _) rfl, g2, g3⟩⟩
        rw [hx, hy]
        unfold Instr.makeSlice
        have w1 : IntKind.i64.wrap (N : Int) = (N : Int) := by rw [IntKind.wrap_i64]; omega
        have hb : (i.bytes : Int) * (N : Int) ≤ 2 ^ 48 := by
          have h1 : i.bytes * N ≤ 64 * 1073741824 := Nat.mul_le_mul (by omega) (by omega)
          have h2 : ((i.bytes * N : Nat) : Int) ≤ ((64 * 1073741824 : Nat) : Int) := Int.ofNat_le.2 h1
          rw [Int.natCast_mul] at h2
          have h3 : ((64 * 1073741824 : Nat) : Int) ≤ 2 ^ 48 := by decide
          omega
        have hroom : ∀ (k : Nat) (W : World), (askRoom k).run P W = .ok () W := fun k W => by
          unfold askRoom
          split <;> simp [mark, Sem.run]
        simp only [Sem.run_bind, Result.andThen_ok, run_und hu, asInt, asIntOf, Sem.run_pure, run_info hi, w1]
        have ht : (decide ((N : Int) < 0) || decide ((i.bytes : Int) * (N : Int) > 2 ^ 48) || decide ((N : Int) < 0) || decide ((N : Int) > (N : Int))) = false := by
          simp only [Bool.or_eq_false_iff, decide_eq_false_iff_not]
          refine ⟨⟨⟨?_, ?_⟩, ?_⟩, ?_⟩ <;> omega
        simp only [ht, Bool.false_eq_true, if_false, Int.toNat_natCast, hroom, Sem.run_pure, Result.andThen_ok, Sem.run_bind]
        by_cases h0 : N * z = 0
        · have e0 : ∀ f : Nat → Value, Array.map f (Array.range (N * z)) = #[] := fun f => by simp [h0]
          simp only [e0, Sem.run_pure, Result.andThen_ok, Sem.run_bind, run_size hz, newRow, newObj, Sem.run, if_pos h0]
        · simp only [Sem.run_pure, Result.andThen_ok, Sem.run_bind, run_size hz, if_neg h0, hr, newRow, newObj, Sem.run]
      · cases h
    · obtain ⟨q, hK, ht⟩ := evR_sound hρ hR hT h
      cases q with
      | val x =>
        obtain ⟨v, hr, hv⟩ := ht
        exact ⟨x, H, hK, v, w, E, .inl hr, hv, hR, .refl⟩
      | new n s =>
        obtain ⟨w', obj, v, sz, z, hr, hp, hB⟩ := ht
        have hK' : H.alloc n (fun H' => K (s.av H.next) H') = true := hK
        obtain ⟨H', E', h1, h2, h3, h4⟩ := hR.make (K := fun H' => K (s.av H.next) H') hK' hp (fun E' hE hb => (hB E' _ hE hb).1)
        exact ⟨_, H', h1, v, w', E', .inl hr, (hB E' _ h3.le h4).2, h2, h3⟩
  case mapUpdate t m k x =>
    simp only [evE] at h
    split at h
    · rename_i m' k' x' h1 h2 h3
      obtain ⟨H', w', h4, hrun, hR', hX⟩ := aMapSet_sound hR (aop_ok hT (by simp [Op.operands]) h1) (aop_ok hT (by simp [Op.operands]) h2) (aop_ok hT (by simp [Op.operands]) h3) h
      exact ⟨_, _, h4, does_unit hrun hR' hX⟩
    · cases h
  case insert t m k x =>
    simp only [evE] at h
    split at h
    · rename_i m' k' x' h1 h2 h3
      obtain ⟨H', w', h4, hrun, hR', hX⟩ := aMapSet_sound hR (aop_ok hT (by simp [Op.operands]) h1) (aop_ok hT (by simp [Op.operands]) h2) (aop_ok hT (by simp [Op.operands]) h3) h
      exact ⟨_, _, h4, does_unit hrun hR' hX⟩
    · cases h
  case next x isS =>
    cases isS <;> simp only [evE] at h <;> (try (cases h; done))
    split at h
    · rename_i x' h1
      obtain ⟨q, H', h2, hd⟩ := aNext_sound hR (aop_ok hT (by simp [Op.operands]) h1) (ty := ty) h
      exact ⟨q, H', h2, hd.does⟩
    · cases h
  case convert s d x =>
    simp only [evE] at h
    split at h
    · rename_i e0 e b off len cap ex hs hd h1
      split at h
      · rename_i he
        obtain ⟨hsd, h'⟩ := cond_true' h
        clear h
        have h := h'
        clear h'
        have hsd := beq_iff'.1 hsd
        subst hsd
        rw [hs] at hd
        cases hd
        split at h
        · rename_i gc hgc
          obtain ⟨g, cs⟩ := gc
          have e1 := aop_ok hT (by simp [Op.operands]) h1
          have hr : ∃ r c', a.eval x = .slice (some ⟨r.blk, off, none⟩) len c' ∧ E b = some r := by
            generalize a.eval x = vx at e1
            cases e1 with
            | sliceX _ _ _ _ r hq => exact ⟨r, _, rfl, hq⟩
            | sliceG _ _ _ _ c' r hq => exact ⟨r, _, rfl, hq⟩
          obtain ⟨r, c', hx, hb⟩ := hr
          obtain ⟨c, elem, fr, hw, hsz, hfr, hle, hV, hg⟩ := cellsAt_rel hR hgc hb
          obtain ⟨w', hrun, ht⟩ := run_strish (P := P) (off := off) hw hfr
          -- memory stays what it is said to be
          have hR' : Rel ρ E H w' := by
            refine ⟨hR.dom, fun j rj hj => ?_, hR.inj, hR.mem, fun i o hi => ⟨by rw [ht.old i fun e => (hR.dat i o hi).2 b r _ hb (cellsAt_cls hgc).choose_spec e.symm]; exact (hR.dat i o hi).1, (hR.dat i o hi).2⟩⟩
            obtain ⟨hlt, k, hk, hB⟩ := hR.blk j rj hj
            refine ⟨by rw [ht.size]; exact hlt, k, hk, ?_⟩
            by_cases hjb : rj.blk = r.blk
            · rw [hjb] at hB ⊢
              rw [hw] at hB
              rw [ht.at_]
              cases k with
              | cells c2 g2 cs2 =>
                obtain ⟨c3, e3, f3, b1, b2, b3, b4, b5, b6⟩ := hB
                cases b1
                exact ⟨c, elem, _, rfl, b2, .inr rfl, b4, b5, b6⟩
              | map c2 es ck => obtain ⟨_, b1, _⟩ := hB; cases b1
              | iter c2 m2 s2 l2 t2 => obtain ⟨_, b1, _⟩ := hB; cases b1
              | loop c2 s2 p2 t2 q2 a2 b2 => obtain ⟨_, b1, _⟩ := hB; cases b1
              | dead => trivial
              | seq c2 z2 n2 f2 =>
                obtain ⟨c3, e3, f3, b1, b2, b3, b4, b5⟩ := hB
                cases b1
                exact ⟨c, elem, _, rfl, b2, .inr rfl, b4, b5⟩
            · rw [ht.old _ hjb]; exact hB
          have hX : Ext E H w E H w' := ⟨.rfl', fun _ _ h => .inl h, ht.os, ht.tape, ht.output, by rw [ht.size]; exact Nat.le_refl _, fun i _ hi => ht.old i fun e => hi b r hb e.symm, fun b r h h' => by rw [h'] at h; (cases h), Nat.le_refl _, fun _ _ _ _ => ⟨rfl, rfl⟩⟩
          refine ⟨_, _, h, DoesV.does (s := Go.convert s s (a.eval x)) ⟨a.eval x, w', E, ?_, e1, hR', hX⟩⟩
          rw [hx]
          simp only [Go.convert, Sem.run_bind, run_und hs, run_und he, Result.andThen_ok, beq_self_eq_true, hrun, Sem.run_pure]
        · cases h
      · cases h
    · cases h
  case call c =>
    obtain ⟨cal, args, ats⟩ := c
    cases cal with
    | value f => simp only [evE] at h; cases h
    | invoke r m => simp only [evE] at h; cases h
    | builtin b =>
      cases b <;> simp only [evE] at h <;> (try (cases h; done))
      case append =>
        split at h
        · rename_i t t' ts s x ha hx
          obtain ⟨args⟩ := args
          obtain ⟨ats⟩ := ats
          simp at ha hx
          subst ha hx
          rw [BigFrame.execOp_builtin, show Array.map a.eval ⟨[s, x]⟩ = #[a.eval s, a.eval x] by simp]
          split at h
          · rename_i e d sv xv hu hu' h1 h2
            have e1 := aop_ok hT (by simp [Op.operands, Call.operands]) h1
            have e2 := aop_ok hT (by simp [Op.operands, Call.operands]) h2
            split at h
            · rename_i n hn
              split at h
              · rename_i k
                split at h
                · rename_i m z hm hz
                  obtain ⟨hlt, h⟩ := cond_true' h
                  have hlt := blt' hlt
                  obtain ⟨k', hxe, _⟩ := nat_sound hm e2
                  obtain ⟨zv, hzr, hzv⟩ := zero_any (ρ := ρ) (E := E) hz
                  have hzc := cells_sound hρ hzv (zero_noTop ‹_›)
                  have hpre : z.cells.length = n ∧ 0 < n := by
                    unfold aAppend at h
                    rw [hz] at h
                    split at h
                    · rename_i z2 i hz2 hi
                      cases hz2
                      obtain ⟨hc, _⟩ := cond_true' h
                      simp only [Bool.and_eq_true] at hc
                      exact ⟨beq_iff'.1 hc.1.1.1.2, blt' hc.1.1.1.1⟩
                    · cases h
                  have hzs : zv.cells.size = n := by have := hzc.length; simp at this; omega
                  have hV : VRs ρ E (repeats z.cells m) (Builtin.zeroCells zv.cells m).toList := by
                    have := repeats_sound hzc m
                    rw [Array.length_toList] at this
                    have e3 := range_map (z := zv.cells) (m * zv.cells.size) (by omega)
                    unfold Builtin.zeroCells
                    rw [e3, Array.length_toList]
                    exact this
                  have hlen : (repeats z.cells m).length = m * n := by
                    have := hV.length
                    simp [Builtin.zeroCells, hzs] at this
                    omega
                  obtain ⟨q, H', hK, hd⟩ := aAppend_sound (ats := ⟨t :: t' :: ts⟩) (ty := ty) (t := t) (t' := t') hρ hR rfl rfl hu hu' hn e1 hV hlen (x := a.eval x) (fun W hW => .inr ⟨⟨k, rfl⟩, ⟨k', hxe⟩, hlt, zv, hzr W, hzs, rfl⟩) h
                  exact ⟨q, H', hK, hd.does⟩
                · cases h
              · rename_i hnk
                cases hlit : (litS sv && litS xv) with
                | false =>
                  rw [hlit] at h
                  obtain ⟨m, g, us, hK, husz, hrows, hsrc⟩ := rowsOf_sound (P := P) hR h e2
                  obtain ⟨q, H', hK, hd⟩ := gPut_sound (ats := ⟨t :: t' :: ts⟩) (ty := ty) (t := t) (t' := t') hρ hR rfl rfl hu hu' hn e1 husz hrows (x := a.eval x) (fun W hW => .inl ⟨fun k e => hnk k e, (hsrc W hW).1, (hsrc W hW).2⟩) hK
                  exact ⟨q, H', hK, hd.does⟩
                | true =>
                rw [hlit] at h
                simp only at h
                split at h
                · rename_i m hm
                  split at h
                  · rename_i vs hvs
                    obtain ⟨us, hrun, hV, hsz⟩ := elems_sound (P := P) hR hvs e2
                    have hlen : vs.length = m * n := by
                      unfold elems at hvs
                      split at hvs
                      · simp at hvs; subst hvs; simp
                      · simp at hvs; subst hvs; simp
                      · rcases cond_split (p := fun z => z = some vs) hvs with ⟨_, hvs⟩ | ⟨_, hvs⟩
                        · split at hvs
                          · obtain ⟨rfl, hx⟩ := span_spec hvs
                            simp; omega
                          · cases hvs
                        · cases hvs
                      · rename_i st
                        rcases cond_split (p := fun z => z = some vs) hvs with ⟨hn1, hvs⟩ | ⟨_, hvs⟩
                        · have hn1 := beq_iff'.1 hn1
                          subst hn1
                          obtain ⟨rfl, hx⟩ := firsts_spec hvs
                          simp at hx
                          simp; omega
                        · cases hvs
                      · cases hvs
                    obtain ⟨q, H', hK, hd⟩ := aAppend_sound (ats := ⟨t :: t' :: ts⟩) (ty := ty) (t := t) (t' := t') hρ hR rfl rfl hu hu' hn e1 hV hlen (x := a.eval x) (fun W hW => .inl ⟨fun k e => hnk k e, lenOf_sound hm e2 W, hrun W hW⟩) h
                    exact ⟨q, H', hK, hd.does⟩
                  · cases h
                · cases h
            · cases h
          · cases h
        · cases h
      case copy =>
        split at h
        · rename_i t ts d s ha hx
          obtain ⟨args⟩ := args
          obtain ⟨ats⟩ := ats
          simp at ha hx
          subst ha hx
          rw [BigFrame.execOp_builtin, show Array.map a.eval ⟨[d, s]⟩ = #[a.eval d, a.eval s] by simp]
          split at h
          · rename_i e dv sv hu h1 h2
            have e1 := aop_ok hT (by simp [Op.operands, Call.operands]) h1
            have e2 := aop_ok hT (by simp [Op.operands, Call.operands]) h2
            split at h
            · rename_i n dl sl hn hdl hsl
              split at h
              · rename_i vs hvs
                obtain ⟨us, hrun, hV, hsz⟩ := elems_sound (P := P) hR hvs e2
                have hl2 := lenOf_sound (P := P) hsl e2 w
                split at h
                · generalize hd : a.eval d = vd at e1
                  cases e1
                  simp [lenOf] at hdl
                  subst hdl
                  refine ⟨_, _, h, DoesV.does (s := Builtin.copy_ ⟨t :: ts⟩ ty #[.slice none 0 0, a.eval s]) ⟨.int .i64 0, w, E, ?_, .int _ _, hR, .refl⟩⟩
                  have hf := hrun w rfl
                  unfold Builtin.copy_
                  simp only [List.getElem?_toArray, List.getElem?_cons_zero, List.getElem?_cons_succ, Sem.run_bind, run_und hu, run_size hn, Result.andThen_ok, hl2, hf, Sem.run_pure, goInt]
                  simp
                · rename_i b off len cap ex
                  have hr : ∃ r c', a.eval d = .slice (some ⟨r.blk, off, none⟩) len c' ∧ E b = some r := by
                    generalize a.eval d = vx at e1
                    cases e1 with
                    | sliceX _ _ _ _ r hq => exact ⟨r, _, rfl, hq⟩
                    | sliceG _ _ _ _ c' r hq => exact ⟨r, _, rfl, hq⟩
                  obtain ⟨r, c', hd, hb⟩ := hr
                  obtain ⟨H', w', h3, hst, hR', hX⟩ := write_sound (P := P) hρ hR hb hV h
                  rw [fNat_eq] at h3
                  simp [lenOf] at hdl
                  subst hdl
                  refine ⟨_, _, h3, DoesV.does (s := Builtin.copy_ ⟨t :: ts⟩ ty #[a.eval d, a.eval s]) ⟨.int .i64 (Nat.min sl len), w', E, ?_, .int _ _, hR', hX⟩⟩
                  have hf := hrun w rfl
                  unfold Builtin.copy_
                  simp only [hd, List.getElem?_toArray, List.getElem?_cons_zero, List.getElem?_cons_succ, Sem.run_bind, run_und hu, run_size hn, Result.andThen_ok, hl2, hf, hst, Sem.run_pure, goInt]
                · cases h
              · cases h
            · cases h
          · cases h
        · cases h
      case delete =>
        split at h
        · rename_i t ts m k ha hx
          obtain ⟨args⟩ := args
          obtain ⟨ats⟩ := ats
          simp at ha hx
          subst ha hx
          rw [BigFrame.execOp_builtin, show Array.map a.eval ⟨[m, k]⟩ = #[a.eval m, a.eval k] by simp]
          split at h
          · rename_i mv kv h1 h2
            obtain ⟨H', w', h3, hrun, hR', hX⟩ := aDelete_sound (ats := ⟨t :: ts⟩) (ty := ty) (t := t) hR rfl (aop_ok hT (by simp [Op.operands, Call.operands]) h1) (aop_ok hT (by simp [Op.operands, Call.operands]) h2) h
            exact ⟨_, _, h3, DoesV.does ⟨_, w', E, hrun, .tuple [] _ .nil, hR', hX⟩⟩
          · cases h
        · cases h
      case clear =>
        split at h
        · rename_i t ts x ha hx
          obtain ⟨args⟩ := args
          obtain ⟨ats⟩ := ats
          simp at ha hx
          subst ha hx
          rw [BigFrame.execOp_builtin, show Array.map a.eval ⟨[x]⟩ = #[a.eval x] by simp]
          split at h
          · rename_i e xv hu h1
            have e1 := aop_ok hT (by simp [Op.operands, Call.operands]) h1
            generalize hxe : a.eval x = vx at e1
            split at h
            · cases e1
              refine ⟨_, _, h, DoesV.does ⟨.tuple #[], w, E, ?_, .tuple [] _ .nil, hR, .refl⟩⟩
              simp [Builtin.clear_, run_und hu]
            · cases e1
              refine ⟨_, _, h, DoesV.does ⟨.tuple #[], w, E, ?_, .tuple [] _ .nil, hR, .refl⟩⟩
              simp [Builtin.clear_, run_und hu]
            · rename_i b off len cap ex
              split at h
              · rename_i z n hz hn
                obtain ⟨hc, h⟩ := cond_true' h
                have hc := beq_iff'.1 hc
                have hr : ∃ r c', vx = .slice (some ⟨r.blk, off, none⟩) len c' ∧ E b = some r := by
                  cases e1 with
                  | sliceX _ _ _ _ r hq => exact ⟨r, _, rfl, hq⟩
                  | sliceG _ _ _ _ c' r hq => exact ⟨r, _, rfl, hq⟩
                obtain ⟨r, c', rfl, hb⟩ := hr
                obtain ⟨zv, hzr, hzv⟩ := zero_any (ρ := ρ) (E := E) hz
                have hzc := cells_sound hρ hzv (zero_noTop ‹_›)
                by_cases hl0 : len = 0
                · subst hl0
                  have : repeats z.cells 0 = [] := rfl
                  rw [this] at h
                  refine ⟨_, _, h, DoesV.does ⟨.tuple #[], w, E, ?_, .tuple [] _ .nil, hR, .refl⟩⟩
                  simp [Builtin.clear_, run_und hu]
                · by_cases hz0 : zv.cells.size = 0
                  · have hzn : z.cells = [] := by
                      have := hzc.length
                      rw [Array.length_toList, hz0] at this
                      exact List.length_eq_zero_iff.1 this.symm
                    have hrep : ∀ k, repeats z.cells k = [] := by
                      intro k
                      rw [hzn]
                      induction k with
                      | zero => rfl
                      | succ k ih => exact ih
                    rw [hrep] at h
                    refine ⟨_, _, h, DoesV.does ⟨.tuple #[], w, E, ?_, .tuple [] _ .nil, hR, .refl⟩⟩
                    unfold Builtin.clear_
                    simp only [List.getElem?_toArray, List.getElem?_cons_zero, Sem.run_bind, run_und hu, Result.andThen_ok]
                    have hzc0 : Builtin.zeroCells zv.cells len = #[] := by simp [Builtin.zeroCells, hz0]
                    have h1 : ∀ (f : Nat), len = f + 1 → True := fun _ _ => trivial
                    cases len with
                    | zero => exact absurd rfl hl0
                    | succ k =>
                      simp only [Sem.run_bind, hzr, Result.andThen_ok, hzc0, storeCells, Sem.run_pure]
                  · have hV : VRs ρ E (repeats z.cells len) (Builtin.zeroCells zv.cells len).toList := by
                      have := repeats_sound hzc len
                      rw [Array.length_toList] at this
                      have e3 := range_map (z := zv.cells) (len * zv.cells.size) (by omega)
                      unfold Builtin.zeroCells
                      rw [e3, Array.length_toList]
                      exact this
                    obtain ⟨H', w', h3, hst, hR', hX⟩ := write_sound (P := P) hρ hR hb hV h
                    refine ⟨_, _, h3, DoesV.does ⟨.tuple #[], w', E, ?_, .tuple [] _ .nil, hR', hX⟩⟩
                    unfold Builtin.clear_
                    simp only [List.getElem?_toArray, List.getElem?_cons_zero, Sem.run_bind, run_und hu, Result.andThen_ok]
                    cases len with
                    | zero => exact absurd rfl hl0
                    | succ k =>
                      simp only [Sem.run_bind, hzr, Result.andThen_ok, hst, Sem.run_pure]
              · cases h
            · rename_i b lo m
              split at h
              · rename_i zv n z k f hz hn hs
                obtain ⟨hc, h'⟩ := cond_true' h
                clear h
                rw [Bool.and_eq_true, Bool.and_eq_true] at hc
                have hc1 := beq_iff'.1 hc.1
                obtain rfl := beq_iff'.1 hc.2.1
                have hlf := hc.2.2
                obtain ⟨hf, h⟩ := fork_true' h'
                have hkm := of_decide_eq_true hf
                cases e1 with
                | part _ _ _ cap a r hb hcc hq ha =>
                  obtain ⟨c, elem, fr, hw, q1, q2, q3, q4, q5, q6, q8⟩ := seq_rel hR hs hb
                  obtain ⟨v0, hzr, hzv⟩ := zero_any (ρ := ρ) (E := E) hz
                  have hzc := cells_sound hρ hzv (zero_noTop hz)
                  have hzl : v0.cells.size = n := by have := hzc.length; simp at this; omega
                  have hV : VRs ρ E (repeats zv.cells m) (Builtin.zeroCells v0.cells m).toList := by
                    have := repeats_sound hzc m
                    rw [Array.length_toList] at this
                    have e3 := range_map (z := v0.cells) (m * v0.cells.size) (by omega)
                    unfold Builtin.zeroCells
                    rw [e3, Array.length_toList]
                    exact this
                  have hul : (Builtin.zeroCells v0.cells m).toList.length = m * n := by simp [Builtin.zeroCells, hzl]
                  obtain ⟨H', w', h3, hst, hR', hX⟩ := seq_over (P := P) hρ hR hs hb (m := m) (k := lo) (g := fun _ => zv.cells) (fun i hi => ⟨hc1, hlf⟩) hul (fun i hi => by
                    have := (hV.drop (i * n)).take n
                    have e4 := repeats_row (l := zv.cells) hi
                    rw [hc1] at e4
                    rw [e4] at this
                    exact this) hkm h
                  refine ⟨_, _, h3, DoesV.does ⟨.tuple #[], w', E, ?_, .tuple [] _ .nil, hR', hX⟩⟩
                  unfold Builtin.clear_
                  simp only [List.getElem?_toArray, List.getElem?_cons_zero, Sem.run_bind, run_und hu, Result.andThen_ok]
                  cases m with
                  | zero =>
                    have h00 : (Builtin.zeroCells v0.cells 0).toList = [] := List.eq_nil_of_length_eq_zero (by rw [hul, Nat.zero_mul])
                    rw [h00] at hst
                    have hst0 : ∀ a'' : Addr, (storeCells a'' []).run P w = .ok () w := fun _ => rfl
                    rw [hst0] at hst
                    injection hst with _ hst
                    subst hst
                    rfl
                  | succ m =>
                    rcases ha with h0 | rfl
                    · omega
                    · simp only [Sem.run_bind, hzr, Result.andThen_ok, hst, Sem.run_pure]
              · cases h
            · cases h
          · rename_i kt e hu h1
            have e1 := aop_ok hT (by simp [Op.operands, Call.operands]) h1
            generalize hxe : a.eval x = vx at e1
            cases e1
            refine ⟨_, _, h, DoesV.does ⟨.tuple #[], w, E, ?_, .tuple [] _ .nil, hR, .refl⟩⟩
            simp [Builtin.clear_, run_und hu]
          · rename_i kt e b hu h1
            have e1 := aop_ok hT (by simp [Op.operands, Call.operands]) h1
            generalize hxe : a.eval x = vx at e1
            cases e1 with
            | map _ r hb =>
              obtain ⟨H1, h1', hR1, hX1, hal, _, hg1, _⟩ := hR.own hb h
              split at h1'
              · rename_i c es ck hes
                obtain ⟨ms, hw, hER⟩ := map_rel hR1 hes hb
                have hobj := run_getObj (P := P) hw (fun _ _ _ h => by cases h)
                have hset := fun o' => run_setObj' (P := P) o' hw (fun _ _ _ h => by cases h)
                obtain ⟨H2, h2, hR2, hX2⟩ := map_turn (ms' := #[]) hR1 hb hal hes hw .nil h1'
                refine ⟨_, _, h2, DoesV.does ⟨.tuple #[], _, E, ?_, .tuple [] _ .nil, hR2, hX1.trans hX2⟩⟩
                unfold Builtin.clear_
                simp only [List.getElem?_toArray, List.getElem?_cons_zero, Sem.run_bind, run_und hu, Result.andThen_ok, hobj, hset, Sem.run_pure]
              · cases h1'
          · cases h
        · cases h
  all_goals (simp only [evE] at h; cases h)
end Go.Proofs.Ytkdmlpmjfnjnmaa.Sv
