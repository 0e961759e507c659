import Derived.Test.YtkdmlpmjfnjnmaaSvg
/-! operations that leave memory as it is: each is what it is. -/
namespace Go.Proofs.Ytkdmlpmjfnjnmaa.Sv
open Go Go.RowKit

set_option linter.unusedVariables false
set_option linter.unusedSimpArgs false
variable {P : Program} {ρ : Ctx} {E : Env} {H : AH} {w : World}

def TmpOK (ρ : Ctx) (E : Env) (tmps : List AV) (a : Act) (xs : Array Operand) : Prop := ∀ t, Operand.tmp t ∈ xs → VR ρ E (aget tmps t) (a.tmps.getD t undef)

theorem aop_ok {tmps : List AV} {a : Act} {x : Operand} {b : AV} {xs : Array Operand} (hT : TmpOK ρ E tmps a xs) (hx : x ∈ xs) (h : aop tmps x = some b) : VR ρ E b (a.eval x) :=
  aop_sound h fun t e => hT t (e ▸ hx)
theorem aparts_ok {tmps : List AV} {a : Act} {xs : Array Operand} (hT : TmpOK ρ E tmps a xs) : ∀ {ps : List (Nat × Operand)} {l : List (Nat × AV)}, (∀ p ∈ ps, p.2 ∈ xs) → aparts tmps ps = some l →
    l.map (·.1) = (ps.map fun x => (x.1, a.eval x.2)).map (·.1) ∧ VRs ρ E (l.map (·.2)) ((ps.map fun x => (x.1, a.eval x.2)).map (·.2))
  | [], l, _, h => by simp [aparts] at h; subst h; exact ⟨rfl, .nil⟩
  | (i, x) :: r, l, hx, h => by
    unfold aparts at h
    split at h
    · rename_i b m h1 h2
      simp at h; subst h
      obtain ⟨h3, h4⟩ := aparts_ok hT (fun p hp => hx p (by simp [hp])) h2
      exact ⟨by simp [h3], .cons _ _ _ _ (aop_ok hT (hx (i, x) (by simp)) h1) h4⟩
    · cases h

theorem pushed_new (w : World) (o : Obj) : Pushed w { w with heap := w.heap.push o } o :=
  ⟨rfl, rfl, rfl, by simp, by simp, fun j hj => by show (w.heap.push o)[j]? = _; rw [Array.getElem?_push, if_neg (by omega)]⟩
/-- a row of new cells. -/
theorem tell_row {s : Sem Value} {e : TypeId} {cells : Array Value} {v : Value} {g : Option Nat} {cs : List AV} {sh : Sh}
    (h : s.run P w = .ok v { w with heap := w.heap.push (.cells cells e) }) (hc : VRs ρ E cs cells.toList)
    (hv : ∀ (E' : Env) (b : Nat), E' b = some ⟨w.heap.size, cells.size, 1⟩ → VR ρ E' (sh.av b) v) (hg : g = none) :
    Tells P ρ E (do pure (Next.value (← s))) w (.new (.cells g cs) sh) :=
  ⟨_, .cells cells e, v, cells.size, 1, run_v h, pushed_new w _, fun E' b hE hb => ⟨⟨cells, e, (0, 0), rfl, rfl, .inl rfl, by have := hc.length; simp at this; omega, by
      have := hc.length
      rw [List.take_of_length_le (by omega)]
      exact hc.mono hE, fun z hz => by subst hg; cases hz⟩, hv E' b hb⟩⟩
theorem repeats_sound {l : List AV} {z : List Value} (h : VRs ρ E l z) (n : Nat) : VRs ρ E (repeats l n) ((List.range (n * z.length)).map fun i => z.getD (i % z.length) undef) := by
  by_cases hz : z.length = 0
  · have : l = [] := by have := h.length; cases l <;> simp_all
    subst this
    rw [hz]
    simp
    induction n with
    | zero => exact .nil
    | succ n ih => exact ih
  · have key : ∀ n, ((List.range (n * z.length)).map fun i => z.getD (i % z.length) undef) = (List.replicate n z).flatten := by
      intro n
      induction n with
      | zero => simp
      | succ n ih =>
        rw [List.replicate_succ', List.flatten_append, ← ih, Nat.add_mul, Nat.one_mul, List.range_add, List.map_append]
        congr 1
        simp only [List.map_map, List.flatten_cons, List.flatten_nil, List.append_nil]
        apply List.ext_getElem?
        intro i
        by_cases hi : i < z.length
        · simp [hi, Nat.mod_eq_of_lt hi]
        · simp [hi]
    rw [key]
    clear key
    induction n with
    | zero => exact .nil
    | succ n ih =>
      rw [List.replicate_succ, List.flatten_cons]
      exact h.append ih
theorem range_map {z : Array Value} (n : Nat) (hz : 0 < z.size) : ((Array.range n).map (fun x => z[x % z.size]!)).toList = (List.range n).map fun i => z.toList.getD (i % z.toList.length) undef := by
  rw [Array.toList_map, Array.toList_range]
  refine List.map_congr_left fun i _ => ?_
  have hlt : i % z.size < z.size := Nat.mod_lt _ hz
  simp [hlt]

theorem ERs.find {es : List Ent} {ms : List MapEntry} (h : ERs ρ E es ms) {s : Nat} {e : Ent} (hf : es.find? (fun e => Nat.beq e.born s) = some e) : ∃ m, ms.find? (fun x => x.born == s) = some m ∧ VR ρ E e.key m.key ∧ VR ρ E e.val m.val := by
  induction h with
  | nil => cases hf
  | cons e0 m l r hk hv hb t ih =>
    rw [List.find?_cons] at hf
    rw [List.find?_cons]
    cases hq : Nat.beq e0.born s with
    | true =>
      rw [hq] at hf
      simp at hf; subst hf
      have : (m.born == s) = true := by rw [← hb]; simpa using beq_iff'.1 hq
      rw [this]
      exact ⟨m, rfl, hk, hv⟩
    | false =>
      rw [hq] at hf
      have : (m.born == s) = false := by rw [← hb]; simpa using beq_false'.1 hq
      rw [this]
      exact ih hf
theorem maxK_sound {big : Bool} {l : List AV} {vs : List Value} {K : Res → Bool} (h : maxK big l K = true) (hv : VRs ρ E l vs) :
    ∃ k k' x y, vs = [.int k x, .int k' y] ∧ K (.val (.sint k (match big with | true => if y > x then y else x | false => if y < x then y else x))) = true := by
  unfold maxK at h
  split at h
  · rename_i a b
    cases hv with
    | cons _ u _ m ha hb =>
      cases hb with
      | cons _ v _ m' hb hn =>
        cases hn
        cases h1 : numOf a with
        | none => simp only [h1] at h; cases h
        | some p =>
          cases h2 : numOf b with
          | none => simp only [h1, h2] at h; cases h
          | some q =>
            obtain ⟨k, x⟩ := p
            obtain ⟨k', y⟩ := q
            simp only [h1, h2] at h
            refine ⟨k, k', x, y, by rw [numOf_sound h1 ha, numOf_sound h2 hb], ?_⟩
            cases big <;> simp only [fork_eq] at h
            · by_cases hxy : y < x
              · simpa [hxy] using h
              · simpa [hxy] using h
            · by_cases hxy : x < y
              · simpa [hxy] using h
              · simpa [hxy] using h
  · cases h
theorem evR0_max {tmps : List AV} {a : Act} {dst : Option Tmp} {args : Array Operand} {ats : Array TypeId} {ty : TypeId} {pos : String} {after : Array Edge} {guard : Option (Nat × Bool)} (hT : TmpOK ρ E tmps a (Op.call ⟨.builtin .max, args, ats⟩).operands)
    {K : Res → Bool} (h : (match aops tmps args.toList with | some l => (match toVs l with | some vs => lscal P (Builtin.max_ ats ty ⟨vs⟩) fun a => K (.val a) | none => maxK true l K) | none => false) = true) :
    ∃ q, K q = true ∧ Tells P ρ E (execOp a.eval ⟨dst, .call ⟨.builtin .max, args, ats⟩, ty, pos, after, guard⟩) w q := by
  split at h
  · rename_i l hl
    split at h
    · rename_i vs hvs
      obtain ⟨q, r, hK, hr, hv⟩ := lscal_sound (ρ := ρ) (E := E) h w
      have e := toVs_sound hvs (aops_sound hl fun t ht => hT t (by simp [Op.operands, Call.operands]; exact Array.mem_toList_iff.1 ht))
      refine ⟨_, hK, ?_⟩
      rw [BigFrame.execOp_builtin]
      refine tell (s := Builtin.max_ ats ty (args.map a.eval)) ?_ hv
      have : args.map a.eval = ⟨vs⟩ := by rw [← e, ← Array.toList_map]
      rw [this]; exact hr
    · obtain ⟨k, k', x, y, e, hK⟩ := maxK_sound (ρ := ρ) (E := E) h (aops_sound hl fun t ht => hT t (by simp [Op.operands, Call.operands]; exact Array.mem_toList_iff.1 ht))
      refine ⟨_, hK, ?_⟩
      rw [BigFrame.execOp_builtin]
      refine tell (s := Builtin.max_ ats ty (args.map a.eval)) ?_ (.sint _ _)
      have : args.map a.eval = ⟨[.int k x, .int k' y]⟩ := by rw [← e, ← Array.toList_map]
      rw [this]; rfl
  · cases h
theorem evR0_min {tmps : List AV} {a : Act} {dst : Option Tmp} {args : Array Operand} {ats : Array TypeId} {ty : TypeId} {pos : String} {after : Array Edge} {guard : Option (Nat × Bool)} (hT : TmpOK ρ E tmps a (Op.call ⟨.builtin .min, args, ats⟩).operands)
    {K : Res → Bool} (h : (match aops tmps args.toList with | some l => (match toVs l with | some vs => lscal P (Builtin.min_ ats ty ⟨vs⟩) fun a => K (.val a) | none => maxK false l K) | none => false) = true) :
    ∃ q, K q = true ∧ Tells P ρ E (execOp a.eval ⟨dst, .call ⟨.builtin .min, args, ats⟩, ty, pos, after, guard⟩) w q := by
  split at h
  · rename_i l hl
    split at h
    · rename_i vs hvs
      obtain ⟨q, r, hK, hr, hv⟩ := lscal_sound (ρ := ρ) (E := E) h w
      have e := toVs_sound hvs (aops_sound hl fun t ht => hT t (by simp [Op.operands, Call.operands]; exact Array.mem_toList_iff.1 ht))
      refine ⟨_, hK, ?_⟩
      rw [BigFrame.execOp_builtin]
      refine tell (s := Builtin.min_ ats ty (args.map a.eval)) ?_ hv
      have : args.map a.eval = ⟨vs⟩ := by rw [← e, ← Array.toList_map]
      rw [this]; exact hr
    · obtain ⟨k, k', x, y, e, hK⟩ := maxK_sound (ρ := ρ) (E := E) h (aops_sound hl fun t ht => hT t (by simp [Op.operands, Call.operands]; exact Array.mem_toList_iff.1 ht))
      refine ⟨_, hK, ?_⟩
      rw [BigFrame.execOp_builtin]
      refine tell (s := Builtin.min_ ats ty (args.map a.eval)) ?_ (.sint _ _)
      have : args.map a.eval = ⟨[.int k x, .int k' y]⟩ := by rw [← e, ← Array.toList_map]
      rw [this]; rfl
  · cases h
theorem evR0_cap {tmps : List AV} {a : Act} {dst : Option Tmp} {args : Array Operand} {ats : Array TypeId} {ty : TypeId} {pos : String} {after : Array Edge} {guard : Option (Nat × Bool)} (hT : TmpOK ρ E tmps a (Op.call ⟨.builtin .cap, args, ats⟩).operands)
    {K : Res → Bool} (h : (match ats.toList, args.toList with
      | t :: _, [x] => match P.underlying t, aop tmps x with
        | some (.slice _), some .nilSlice => K (.val (.int .i64 (.ofNat 0)))
        | some (.slice _), some (.slice _ _ _ cap true) => K (.val (.int .i64 (.ofNat cap)))
        | _, _ => false
      | _, _ => false) = true) :
    ∃ q, K q = true ∧ Tells P ρ E (execOp a.eval ⟨dst, .call ⟨.builtin .cap, args, ats⟩, ty, pos, after, guard⟩) w q := by
  split at h
  · rename_i t ts x ha hx
    obtain ⟨args⟩ := args
    obtain ⟨ats⟩ := ats
    simp at ha hx
    subst ha hx
    split at h
    · rename_i e hu h1
      have e1 := aop_ok hT (by simp [Op.operands, Call.operands]) h1
      generalize hx : a.eval x = vx at e1
      cases e1
      refine ⟨_, h, ?_⟩
      rw [BigFrame.execOp_builtin, show Array.map a.eval ⟨[x]⟩ = #[a.eval x] by simp]
      refine tell (s := Builtin.cap_ ⟨t :: ts⟩ ty #[a.eval x]) (v := .int .i64 0) ?_ (.int _ _)
      simp [Builtin.cap_, run_und hu, hx, goInt]
    · rename_i e b off len cap hu h1
      have e1 := aop_ok hT (by simp [Op.operands, Call.operands]) h1
      generalize hx : a.eval x = vx at e1
      cases e1
      refine ⟨_, h, ?_⟩
      rw [BigFrame.execOp_builtin, show Array.map a.eval ⟨[x]⟩ = #[a.eval x] by simp]
      refine tell (s := Builtin.cap_ ⟨t :: ts⟩ ty #[a.eval x]) (v := .int .i64 cap) ?_ (.int _ _)
      simp [Builtin.cap_, run_und hu, hx, goInt]
    · cases h
  · cases h
theorem evR0_len (hR : Rel ρ E H w) {tmps : List AV} {a : Act} {dst : Option Tmp} {args : Array Operand} {ats : Array TypeId} {ty : TypeId} {pos : String} {after : Array Edge} {guard : Option (Nat × Bool)} (hT : TmpOK ρ E tmps a (Op.call ⟨.builtin .len, args, ats⟩).operands)
    {K : Res → Bool} (h : (match ats.toList, args.toList with
      | t :: _, [x] => match aop tmps x with | some a => aLen P H t a K | none => false
      | _, _ => false) = true) :
    ∃ q, K q = true ∧ Tells P ρ E (execOp a.eval ⟨dst, .call ⟨.builtin .len, args, ats⟩, ty, pos, after, guard⟩) w q := by
  split at h
  · rename_i t ts x ha hx
    obtain ⟨args⟩ := args
    obtain ⟨ats⟩ := ats
    simp at ha hx
    subst ha hx
    split at h
    · rename_i b h1
      have e1 := aop_ok hT (by simp [Op.operands, Call.operands]) h1
      suffices hs : ∃ q v, K (.val q) = true ∧ (Builtin.len_ ⟨t :: ts⟩ ty #[a.eval x]).run P w = .ok v w ∧ VR ρ E q v by
        obtain ⟨q, v, h1, h2, h3⟩ := hs
        refine ⟨_, h1, ?_⟩
        rw [BigFrame.execOp_builtin, show Array.map a.eval ⟨[x]⟩ = #[a.eval x] by simp]
        exact tell (s := Builtin.len_ ⟨t :: ts⟩ ty #[a.eval x]) h2 h3
      generalize a.eval x = vx at e1
      unfold aLen at h
      split at h
      · rename_i s hu
        rw [fNat_eq] at h
        cases e1
        refine ⟨_, .int .i64 (Int.ofNat s.length), h, ?_, .int _ _⟩
        have hs : (⟨⟨s.map UInt8.ofNat⟩⟩ : ByteArray).size = s.length := List.length_map ..
        unfold Builtin.len_
        simp only [List.getElem?_toArray, List.getElem?_cons_zero, Sem.run_bind, run_und hu, Result.andThen_ok, Sem.run_pure, goInt, hs]
        rfl
      · rename_i n e hu
        rw [fNat_eq] at h
        exact ⟨_, .int .i64 n, h, by simp [Builtin.len_, run_und hu, goInt], .int _ _⟩
      · rename_i e hu
        split at h
        · cases e1
          exact ⟨_, .int .i64 0, h, by simp [Builtin.len_, run_und hu, goInt], .int _ _⟩
        · cases e1
          exact ⟨_, .int .i64 0, h, by simp [Builtin.len_, run_und hu, goInt], .int _ _⟩
        · rename_i bb off n cap ex
          refine ⟨_, .int .i64 n, h, ?_, .int _ _⟩
          cases e1 <;> simp [Builtin.len_, run_und hu, goInt]
        · cases e1 with
          | anySlice aa nn cc => exact ⟨_, .int .i64 nn, h, by simp [Builtin.len_, run_und hu, goInt], .unkI _ _⟩
        · rename_i z n f
          refine ⟨_, .int .i64 n, h, ?_, .sint _ _⟩
          cases e1 <;> simp [Builtin.len_, run_und hu, goInt]
        · rename_i b n
          refine ⟨_, .int .i64 n, h, ?_, .sint _ _⟩
          cases e1 <;> simp [Builtin.len_, run_und hu, goInt]
        · rename_i b lo n
          refine ⟨_, .int .i64 n, h, ?_, .sint _ _⟩
          cases e1 <;> simp [Builtin.len_, run_und hu, goInt]
        · cases h
      · rename_i hu
        cases e1
        exact ⟨_, .int .i64 0, h, by simp [Builtin.len_, run_und hu, goInt], .int _ _⟩
      · rename_i kt e b hu
        split at h
        · rename_i c es ck hes
          rw [fNat_eq] at h
          cases e1 with
          | map _ r hr =>
            obtain ⟨ms, hw, hER⟩ := map_rel hR hes hr
            have hobj := run_getObj (P := P) hw (fun _ _ _ h => by cases h)
            refine ⟨_, .int .i64 es.length, h, ?_, .int _ _⟩
            have hl := hER.length
            simp at hl
            simp [Builtin.len_, run_und hu, goInt, hobj, hl]
        · cases h
      · cases h
    · cases h
  · cases h
theorem exec_build (f : Operand → Value) (dst : Option Tmp) (t : TypeId) (parts : Array (Nat × Operand)) (ty : TypeId) (pos : String) (after : Array Edge) (guard : Option (Nat × Bool)) :
    execOp f ⟨dst, .build t parts, ty, pos, after, guard⟩ = (do pure (.value (← Instr.build t (parts.map fun x => (x.1, f x.2))))) := rfl
theorem exec_buildSlice (f : Operand → Value) (dst : Option Tmp) (t : TypeId) (n : Nat) (parts : Array (Nat × Operand)) (ty : TypeId) (pos : String) (after : Array Edge) (guard : Option (Nat × Bool)) :
    execOp f ⟨dst, .buildSlice t n parts, ty, pos, after, guard⟩ = (do pure (.value (← Instr.buildSlice t n (parts.map fun x => (x.1, f x.2))))) := rfl
theorem evR0_move (hρ : ∀ i, (ρ i).oneCell' = true) (hR : Rel ρ E H w) {tmps : List AV} {a : Act} {dst : Option Tmp} (x : Operand) {ty : TypeId} {pos : String} {after : Array Edge} {guard : Option (Nat × Bool)} (hT : TmpOK ρ E tmps a (Op.move x).operands)
    {K : Res → Bool} (h : evR0 P H tmps ⟨dst, .move x, ty, pos, after, guard⟩ K = true) : ∃ q, K q = true ∧ Tells P ρ E (execOp a.eval ⟨dst, .move x, ty, pos, after, guard⟩) w q := by
  simp only [evR0] at h
  split at h
  · rename_i b hb
    exact ⟨_, h, _, rfl, aop_ok hT (by simp [Op.operands]) hb⟩
  · cases h
theorem evR0_assign (hρ : ∀ i, (ρ i).oneCell' = true) (hR : Rel ρ E H w) {tmps : List AV} {a : Act} {dst : Option Tmp} (x : Operand) {ty : TypeId} {pos : String} {after : Array Edge} {guard : Option (Nat × Bool)} (hT : TmpOK ρ E tmps a (Op.assign x).operands)
    {K : Res → Bool} (h : evR0 P H tmps ⟨dst, .assign x, ty, pos, after, guard⟩ K = true) : ∃ q, K q = true ∧ Tells P ρ E (execOp a.eval ⟨dst, .assign x, ty, pos, after, guard⟩) w q := by
  simp only [evR0] at h
  split at h
  · rename_i b hb
    exact ⟨_, h, _, rfl, aop_ok hT (by simp [Op.operands]) hb⟩
  · cases h
theorem evR0_pick (hρ : ∀ i, (ρ i).oneCell' = true) (hR : Rel ρ E H w) {tmps : List AV} {a : Act} {dst : Option Tmp} (c x y : Operand) {ty : TypeId} {pos : String} {after : Array Edge} {guard : Option (Nat × Bool)} (hT : TmpOK ρ E tmps a (Op.pick c x y).operands)
    {K : Res → Bool} (h : evR0 P H tmps ⟨dst, .pick c x y, ty, pos, after, guard⟩ K = true) : ∃ q, K q = true ∧ Tells P ρ E (execOp a.eval ⟨dst, .pick c x y, ty, pos, after, guard⟩) w q := by
  simp only [evR0] at h
  split at h
  · rename_i b u h1 h2 h3
    have e := aop_ok hT (by simp [Op.operands]) h1
    have e2 := aop_ok hT (by simp [Op.operands]) h2
    refine ⟨_, h, a.eval x, ?_, e2⟩
    generalize hx : a.eval c = vc at e
    cases e
    simp [execOp, asBool, hx]
  · rename_i b u h1 h2 h3
    have e := aop_ok hT (by simp [Op.operands]) h1
    have e2 := aop_ok hT (by simp [Op.operands]) h3
    refine ⟨_, h, a.eval y, ?_, e2⟩
    generalize hx : a.eval c = vc at e
    cases e
    simp [execOp, asBool, hx]
  · cases h
theorem leaf_noTop {v : Value} {a : AV} (h : leaf v = some a) : a.noTop = true := by
  unfold leaf at h
  split at h <;> simp at h <;> subst h <;> rfl
theorem zero_noTop {t : TypeId} {a : AV} (h : zero P t = some a) : a.noTop = true := by
  unfold zero at h
  split at h
  · cases h
  · split at h
    · cases h
    · unfold ofV at h
      split at h
      · simp only [Option.map_eq_some_iff] at h
        obtain ⟨m, _, rfl⟩ := h
        rfl
      · exact leaf_noTop h
theorem evR0_alloc (hρ : ∀ i, (ρ i).oneCell' = true) (hR : Rel ρ E H w) {tmps : List AV} {a : Act} {dst : Option Tmp} (t : TypeId) {ty : TypeId} {pos : String} {after : Array Edge} {guard : Option (Nat × Bool)} (hT : TmpOK ρ E tmps a (Op.alloc t).operands)
    {K : Res → Bool} (h : evR0 P H tmps ⟨dst, .alloc t, ty, pos, after, guard⟩ K = true) : ∃ q, K q = true ∧ Tells P ρ E (execOp a.eval ⟨dst, .alloc t, ty, pos, after, guard⟩) w q := by
  simp only [evR0] at h
  split at h
  · rename_i z hz
    obtain ⟨v, hr, hv⟩ := run_zero (ρ := ρ) (E := E) hz w
    refine ⟨_, h, tell_row (s := Instr.alloc t true (.tuple #[])) (v := .pointer (some ⟨w.heap.size, 0, none⟩)) (cells := v.cells) (e := t) ?_ (cells_sound hρ hv (zero_noTop hz)) (fun E' b hb => .ptr _ _ _ hb) rfl⟩
    simp [Instr.alloc, hr, newVar, newRow, newObj, Sem.run]
  · cases h
theorem evR0_box (hρ : ∀ i, (ρ i).oneCell' = true) (hR : Rel ρ E H w) {tmps : List AV} {a : Act} {dst : Option Tmp} (t : TypeId) (x : Operand) {ty : TypeId} {pos : String} {after : Array Edge} {guard : Option (Nat × Bool)} (hT : TmpOK ρ E tmps a (Op.box t x).operands)
    {K : Res → Bool} (h : evR0 P H tmps ⟨dst, .box t x, ty, pos, after, guard⟩ K = true) : ∃ q, K q = true ∧ Tells P ρ E (execOp a.eval ⟨dst, .box t x, ty, pos, after, guard⟩) w q := by
  simp only [evR0] at h
  split at h
  · rename_i b hb
    obtain ⟨hnt, h⟩ := cond_true' h
    have e := aop_ok hT (by simp [Op.operands]) hb
    refine ⟨_, h, tell_row (s := Instr.box t (a.eval x)) (v := .pointer (some ⟨w.heap.size, 0, none⟩)) (cells := (a.eval x).cells) (e := t) ?_ (cells_sound hρ e hnt) (fun E' b hb => .ptr _ _ _ hb) rfl⟩
    simp [Instr.box, newVar, newRow, newObj, Sem.run]
  · cases h
theorem evR0_build (hρ : ∀ i, (ρ i).oneCell' = true) (hR : Rel ρ E H w) {tmps : List AV} {a : Act} {dst : Option Tmp} (t : TypeId) (ps : Array (Nat × Operand)) {ty : TypeId} {pos : String} {after : Array Edge} {guard : Option (Nat × Bool)} (hT : TmpOK ρ E tmps a (Op.build t ps).operands)
    {K : Res → Bool} (h : evR0 P H tmps ⟨dst, .build t ps, ty, pos, after, guard⟩ K = true) : ∃ q, K q = true ∧ Tells P ρ E (execOp a.eval ⟨dst, .build t ps, ty, pos, after, guard⟩) w q := by
  rw [exec_build]
  simp only [evR0] at h
  split at h
  · rename_i z l hz hl
    obtain ⟨v, hr, hv⟩ := run_zero (ρ := ρ) (E := E) hz w
    obtain ⟨h1, h2⟩ := aparts_ok hT (ps := ps.toList) (fun p hp => by simp [Op.operands]; exact ⟨p.1, by simpa using hp⟩) hl
    have hps : (ps.map fun x => (x.1, a.eval x.2)).toList = ps.toList.map fun x => (x.1, a.eval x.2) := by simp
    split at h
    · rename_i fs hu
      split at h
      · rename_i pl hpl
        obtain ⟨cs', vs', hK, hf, hV, _⟩ := fillG_sound (ρ := ρ) (E := E) hρ h h1 h2 (cells_sound hρ hv (zero_noTop hz))
        refine ⟨_, hK, tell (s := Instr.build t (ps.map fun x => (x.1, a.eval x.2))) (v := .agg vs') ?_ (.agg _ _ hV)⟩
        have hm : (fs.mapM fun f => (do pure (f.offset, ← sizeOf f.type) : Sem (Nat × Nat))).run P w = .ok pl.toArray w := by
          rw [Array.mapM_eq_mapM_toList]
          simp only [Sem.run_map, places_run w hpl]
          rfl
        have hpe : (fun i => (pl.drop i).head?) = (fun i => pl.toArray[i]?) := by funext i; simp [List.head?_drop]
        rw [hpe] at hf
        unfold Instr.build
        simp only [Sem.run_bind, hr, Result.andThen_ok, run_und hu, hm, hps, hf]
        rfl
      · cases h
    · rename_i n e hu
      split at h
      · rename_i z' hn
        have hvc := cells_sound hρ hv (zero_noTop ‹_›)
        obtain ⟨cs', vs', hK, hf, hV, _⟩ := fillG_sound (place := fun i => some (i * z', z')) (ρ := ρ) (E := E) hρ h h1 h2 hvc
        refine ⟨.val (.agg cs'), hK, ?_⟩
        have hV2 : VR ρ E (.agg cs') (.agg vs') := .agg _ _ hV
        have hrun : (Instr.build t (ps.map fun x => (x.1, a.eval x.2))).run P w = .ok (.agg vs') w := by
          unfold Instr.build
          simp only [Sem.run_bind, hr, Result.andThen_ok, run_und hu, run_size hn, hps, hf, Sem.run_pure]
        exact tell hrun hV2
      · cases h
    · cases h
  · cases h
theorem evR0_buildSlice (hρ : ∀ i, (ρ i).oneCell' = true) (hR : Rel ρ E H w) {tmps : List AV} {a : Act} {dst : Option Tmp} (t : TypeId) (len : Nat) (ps : Array (Nat × Operand)) {ty : TypeId} {pos : String} {after : Array Edge} {guard : Option (Nat × Bool)} (hT : TmpOK ρ E tmps a (Op.buildSlice t len ps).operands)
    {K : Res → Bool} (h : evR0 P H tmps ⟨dst, .buildSlice t len ps, ty, pos, after, guard⟩ K = true) : ∃ q, K q = true ∧ Tells P ρ E (execOp a.eval ⟨dst, .buildSlice t len ps, ty, pos, after, guard⟩) w q := by
  rw [exec_buildSlice]
  simp only [evR0] at h
  split at h
  · rename_i e l hu hl
    obtain ⟨h1, h2⟩ := aparts_ok hT (ps := ps.toList) (fun p hp => by simp [Op.operands]; exact ⟨p.1, by simpa using hp⟩) hl
    have hps : (ps.map fun x => (x.1, a.eval x.2)).toList = ps.toList.map fun x => (x.1, a.eval x.2) := by simp
    split at h
    · rename_i n z hn hz
      obtain ⟨hc, h⟩ := cond_true' h
      simp only [Bool.and_eq_true] at hc
      obtain ⟨⟨c1, c2⟩, c3⟩ := hc
      have c1 := blt' c1; have c2 := beq_iff'.1 c2; have c3 := blt' c3
      obtain ⟨v, hr, hv⟩ := run_zero (ρ := ρ) (E := E) hz w
      have hvc := cells_sound hρ hv (zero_noTop ‹_›)
      have hvs : v.cells.size = n := by have := hvc.length; simp at this; omega
      have hzc : VRs ρ E (repeats z.cells len) (((Array.range (len * n)).map (fun x => v.cells[x % v.cells.size]!)).toList) := by
        rw [range_map _ (by omega)]
        have := repeats_sound hvc len
        rw [Array.length_toList, hvs] at this
        rw [Array.length_toList, hvs]
        exact this
      obtain ⟨cs', vs', hK, hf, hV, _⟩ := fillG_sound (place := fun i => some (i * n, n)) (ρ := ρ) (E := E) hρ h h1 h2 hzc
      refine ⟨.new (.cells none cs') (.slice len len true), hK, ?_⟩
      have hs : ∀ (E' : Env) (b : Nat), E' b = some ⟨w.heap.size, vs'.size, 1⟩ → VR ρ E' ((Sh.slice len len true).av b) (.slice (some ⟨w.heap.size, 0, none⟩) len len) := fun E' b hb => .sliceX _ _ _ _ _ hb
      refine tell_row (v := .slice (some ⟨w.heap.size, 0, none⟩) len len) (e := e) ?_ hV hs rfl
      unfold Instr.buildSlice
      simp only [Sem.run_bind, Result.andThen_ok, run_und hu, run_size hn]
      rw [if_neg (by omega)]
      by_cases h0 : len * n = 0
      · have hlen : len = 0 := by rcases Nat.mul_eq_zero.1 h0 with h | h <;> omega
        subst hlen
        rw [Nat.zero_mul] at hf
        have e0 : ∀ z : Array Value, Array.map (fun x => z[x % z.size]!) (Array.range 0) = #[] := fun z => by simp
        rw [e0] at hf
        simp only [Nat.zero_mul, if_true, Sem.run_bind, Sem.run_pure, Result.andThen_ok, hps, e0, hf, newRow, newObj, Sem.run]
      · rw [if_neg h0]
        simp only [Sem.run_bind, hr, Result.andThen_ok, Sem.run_pure, hps, hf, newRow, newObj, Sem.run]
    · cases h
  · cases h
theorem part_zero {t : TypeId} {cs : List AV} {a : AV} (h : part P t cs 0 = some a) : (isAgg P t = some true ∧ ∃ n, size P t = some n ∧ n ≤ cs.length ∧ a = .agg (cs.take n)) ∨ (isAgg P t = some false ∧ ∃ n r, size P t = some n ∧ cs = a :: r) := by
  unfold part at h
  split at h
  · rename_i n h1 h2
    simp only [Option.map_eq_some_iff] at h
    obtain ⟨m, hm, rfl⟩ := h
    obtain ⟨rfl, hle⟩ := span_spec hm
    exact .inl ⟨h1, n, h2, by omega, by simp⟩
  · rename_i n h1 h2
    cases cs with
    | nil => simp at h
    | cons x r => simp at h; subst h; exact .inr ⟨h1, n, r, h2, rfl⟩
  · cases h
theorem load_row {t : TypeId} {cs : List AV} {q : AV} {o : Nat} {b off : Nat} {c : Array Value} {elem : TypeId} {fr : Nat × Nat} (hw : w.heap[b]? = some (.cells c elem fr)) (hq : part P t cs o = some q) (hsz : off + cs.length ≤ c.size)
    (hrow : VRs ρ E cs ((c.toList.drop off).take cs.length)) : ∃ v, (loadVar t ⟨b, off + o, none⟩).run P w = .ok v w ∧ VR ρ E q v := by
  have hd := hrow.drop o
  rw [List.drop_take, List.drop_drop] at hd
  unfold part at hq
  split at hq
  · rename_i n h1 h2
    simp only [Option.map_eq_some_iff] at hq
    obtain ⟨m, hm, rfl⟩ := hq
    obtain ⟨rfl, hle⟩ := span_spec hm
    refine ⟨.agg ((c.toList.drop (off + o)).take n).toArray, ?_, .agg _ _ ?_⟩
    · simp [loadVar, run_agg h1, run_size h2, run_cells (P := P) hw (n := n) (off := off + o) (by omega)]
    · have := hd.take n
      rw [List.take_take] at this
      by_cases hn : n = 0
      · subst hn
        simp
        exact .nil
      · have e : min n (cs.length - o) = n := by omega
        rw [e] at this
        simpa using this
  · rename_i n h1 h2
    rw [List.head?_drop] at hq
    obtain ⟨hlt, hge⟩ := List.getElem?_eq_some_iff.1 hq
    obtain ⟨v, h3, h4⟩ := hrow.at_ hq
    refine ⟨v, ?_, h4⟩
    rw [List.getElem?_take, if_pos hlt, List.getElem?_drop] at h3
    have h5 : w.cell? ⟨b, off + o, none⟩ = some v := by
      rw [World.cell?, hw]
      simpa using h3
    simp [loadVar, run_agg h1, h5]
  · cases hq
theorem load_data (hR : Rel ρ E H w) {t : TypeId} {cs : List AV} {q : AV} (hq : part P t cs 0 = some q) {b off : Nat} {c : Array Value} {elem : TypeId} {fr : Nat × Nat} (hd : (E.all ρ).dat b = some (.cells c elem fr)) (hsz : off + cs.length ≤ c.size)
    (hrow : VRs ρ E cs ((c.toList.drop off).take cs.length)) : ∃ v, (loadVar t ⟨b, off, none⟩).run P w = .ok v w ∧ VR ρ E q v := by
  have hw := hR.row hd
  rcases part_zero hq with ⟨h1, n, h2, hle, rfl⟩ | ⟨h1, n, r, h2, rfl⟩
  · refine ⟨.agg ((c.toList.drop off).take n).toArray, ?_, .agg _ _ ?_⟩
    · simp [loadVar, run_agg h1, run_size h2, run_cells (P := P) hw (n := n) (off := off) (by omega)]
    · have := hrow.take n
      rw [List.take_take] at this
      have e : min n cs.length = n := by omega
      rw [e] at this
      simpa using this
  · generalize hg : (c.toList.drop off).take (q :: r).length = l at hrow
    cases hrow with
    | cons _ v _ m hv ht =>
      refine ⟨v, ?_, hv⟩
      have h3 : ((c.toList.drop off).take (q :: r).length)[0]? = some v := by rw [hg]; rfl
      rw [List.getElem?_take] at h3
      split at h3
      · rw [List.getElem?_drop] at h3
        have h5 : w.cell? ⟨b, off, none⟩ = some v := by
          rw [World.cell?, hw]
          simpa using h3
        simp [loadVar, run_agg h1, h5]
      · cases h3
theorem evR0_load (hρ : ∀ i, (ρ i).oneCell' = true) (hR : Rel ρ E H w) {tmps : List AV} {a : Act} {dst : Option Tmp} (t : TypeId) (x : Operand) {ty : TypeId} {pos : String} {after : Array Edge} {guard : Option (Nat × Bool)} (hT : TmpOK ρ E tmps a (Op.load t x).operands)
    {K : Res → Bool} (h : evR0 P H tmps ⟨dst, .load t x, ty, pos, after, guard⟩ K = true) : ∃ q, K q = true ∧ Tells P ρ E (execOp a.eval ⟨dst, .load t x, ty, pos, after, guard⟩) w q := by
  simp only [evR0] at h
  split at h
  · rename_i b off hb
    split at h
    · rename_i q hq
      have e := aop_ok hT (by simp [Op.operands]) hb
      generalize hx : a.eval x = vx at e
      cases e with
      | ptr _ _ r hr =>
        obtain ⟨v, h1, h2⟩ := loadAt_sound (P := P) hR hq hr
        refine ⟨_, h, tell (s := Instr.loadAt t (a.eval x)) ?_ h2⟩
        simp [Instr.loadAt, hx, Instr.sureAddr, h1]
    · cases h
  · rename_i cs hb
    split at h
    · rename_i q hq
      have e := aop_ok hT (by simp [Op.operands]) hb
      generalize hx : a.eval x = vx at e
      cases e with
      | dptr _ b off c elem fr hd hsz hrow =>
        obtain ⟨v, h1, h2⟩ := load_data (P := P) hR hq hd hsz hrow.vra
        refine ⟨_, h, tell (s := Instr.loadAt t (a.eval x)) ?_ h2⟩
        simp [Instr.loadAt, hx, Instr.sureAddr, h1]
    · cases h
  · rename_i b i o hb
    split at h
    · rename_i z n f hs
      obtain ⟨hi, h'⟩ := fork_true' h
      have hi := of_decide_eq_true hi
      clear h
      split at h'
      · rename_i q hq
        have e := aop_ok hT (by simp [Op.operands]) hb
        generalize hx : a.eval x = vx at e
        cases e with
        | gptr _ _ _ r hr =>
          obtain ⟨c, elem, fr, hw, h1, h2, h3, h4, h5, h6, h8⟩ := seq_rel hR hs hr
          obtain ⟨v, g1, g2⟩ := load_row (P := P) (off := i * z) hw hq (by
            have : (i + 1) * z ≤ n * z := Nat.mul_le_mul_right z hi
            rw [Nat.succ_mul] at this
            rw [h6 i hi]; omega) (by rw [h6 i hi]; exact h8 i hi)
          refine ⟨_, h', tell (s := Instr.loadAt t (a.eval x)) ?_ g2⟩
          rw [hx, h4]
          simp [Instr.loadAt, Instr.sureAddr, g1]
      · cases h'
    · cases h
  · cases h
theorem evR0_nilCheck (hρ : ∀ i, (ρ i).oneCell' = true) (hR : Rel ρ E H w) {tmps : List AV} {a : Act} {dst : Option Tmp} (x : Operand) {ty : TypeId} {pos : String} {after : Array Edge} {guard : Option (Nat × Bool)} (hT : TmpOK ρ E tmps a (Op.nilCheck x).operands)
    {K : Res → Bool} (h : evR0 P H tmps ⟨dst, .nilCheck x, ty, pos, after, guard⟩ K = true) : ∃ q, K q = true ∧ Tells P ρ E (execOp a.eval ⟨dst, .nilCheck x, ty, pos, after, guard⟩) w q := by
  simp only [evR0] at h
  split at h
  · rename_i b off hb
    have e := aop_ok hT (by simp [Op.operands]) hb
    generalize hx : a.eval x = vx at e
    refine ⟨_, h, vx, ?_, e⟩
    cases e
    simp [execOp, hx]
  · rename_i f l m hb
    have e := aop_ok hT (by simp [Op.operands]) hb
    generalize hx : a.eval x = vx at e
    refine ⟨_, h, vx, ?_, e⟩
    cases e
    simp [execOp, hx]
  · cases h
theorem evR0_binOp (hρ : ∀ i, (ρ i).oneCell' = true) (hR : Rel ρ E H w) {tmps : List AV} {a : Act} {dst : Option Tmp} (op : BinOp) (t : TypeId) (x y : Operand) (yt : TypeId) {ty : TypeId} {pos : String} {after : Array Edge} {guard : Option (Nat × Bool)} (hT : TmpOK ρ E tmps a (Op.binOp op t x y yt).operands)
    {K : Res → Bool} (h : evR0 P H tmps ⟨dst, .binOp op t x y yt, ty, pos, after, guard⟩ K = true) : ∃ q, K q = true ∧ Tells P ρ E (execOp a.eval ⟨dst, .binOp op t x y yt, ty, pos, after, guard⟩) w q := by
  simp only [evR0] at h
  split at h
  · rename_i u v h1 h2
    obtain ⟨q, r, hK, hr, hv⟩ := aBin_sound h (aop_ok hT (by simp [Op.operands]) h1) (aop_ok hT (by simp [Op.operands]) h2) w
    exact ⟨_, hK, tell hr hv⟩
  · cases h
theorem evR0_unOp (hρ : ∀ i, (ρ i).oneCell' = true) (hR : Rel ρ E H w) {tmps : List AV} {a : Act} {dst : Option Tmp} (op : UnOp) (t : TypeId) (x : Operand) {ty : TypeId} {pos : String} {after : Array Edge} {guard : Option (Nat × Bool)} (hT : TmpOK ρ E tmps a (Op.unOp op t x).operands)
    {K : Res → Bool} (h : evR0 P H tmps ⟨dst, .unOp op t x, ty, pos, after, guard⟩ K = true) : ∃ q, K q = true ∧ Tells P ρ E (execOp a.eval ⟨dst, .unOp op t x, ty, pos, after, guard⟩) w q := by
  simp only [evR0] at h
  split at h
  · rename_i u h1
    unfold aUn at h
    split at h
    · have e := aop_ok hT (by simp [Op.operands]) h1
      generalize hx : a.eval x = vx at e
      cases e
      split at h
      · obtain ⟨q, h, hq⟩ := wr_sound (ρ := ρ) (E := E) h
        exact ⟨_, h, tell (s := Op.unary .neg (a.eval x)) (by rw [hx]; simp only [Op.unary, Op.intArith]; rfl) hq⟩
      · cases h
    split at h
    · rename_i v hv
      obtain ⟨q, r, hK, hr, hv2⟩ := lscal_sound (ρ := ρ) (E := E) h w
      have e := toV_sound hv (aop_ok hT (by simp [Op.operands]) h1)
      refine ⟨_, hK, tell (s := Op.unary op (a.eval x)) ?_ hv2⟩
      rw [e]; exact hr
    · cases h
  · cases h
theorem evR0_convert (hρ : ∀ i, (ρ i).oneCell' = true) (hR : Rel ρ E H w) {tmps : List AV} {a : Act} {dst : Option Tmp} (s d : TypeId) (x : Operand) {ty : TypeId} {pos : String} {after : Array Edge} {guard : Option (Nat × Bool)} (hT : TmpOK ρ E tmps a (Op.convert s d x).operands)
    {K : Res → Bool} (h : evR0 P H tmps ⟨dst, .convert s d x, ty, pos, after, guard⟩ K = true) : ∃ q, K q = true ∧ Tells P ρ E (execOp a.eval ⟨dst, .convert s d x, ty, pos, after, guard⟩) w q := by
  simp only [evR0] at h
  split at h
  · rename_i u h1
    exact aConv_sound hR h (aop_ok hT (by simp [Op.operands]) h1)
  · cases h
theorem evR0_makeFunc (hρ : ∀ i, (ρ i).oneCell' = true) (hR : Rel ρ E H w) {tmps : List AV} {a : Act} {dst : Option Tmp} (fn : Fn) (l m : Array Operand) {ty : TypeId} {pos : String} {after : Array Edge} {guard : Option (Nat × Bool)} (hT : TmpOK ρ E tmps a (Op.makeFunc fn l m).operands)
    {K : Res → Bool} (h : evR0 P H tmps ⟨dst, .makeFunc fn l m, ty, pos, after, guard⟩ K = true) : ∃ q, K q = true ∧ Tells P ρ E (execOp a.eval ⟨dst, .makeFunc fn l m, ty, pos, after, guard⟩) w q := by
  cases fn <;> simp only [evR0] at h <;> (try (cases h; done))
  split at h
  · rename_i x y h1 h2
    refine ⟨_, h, tell (s := Instr.makeFunc (.func _) (l.map a.eval) (m.map a.eval)) (v := .func (.func _) (l.map a.eval) (m.map a.eval)) rfl (.fn _ _ _ _ _ ?_ ?_)⟩
    · rw [Array.toList_map]
      exact aops_sound h1 fun t ht => hT t (by simp [Op.operands]; exact .inl (by simpa using ht))
    · rw [Array.toList_map]
      exact aops_sound h2 fun t ht => hT t (by simp [Op.operands]; exact .inr (by simpa using ht))
  · cases h
theorem evR0_makeMap (hρ : ∀ i, (ρ i).oneCell' = true) (hR : Rel ρ E H w) {tmps : List AV} {a : Act} {dst : Option Tmp} (t : TypeId) (r : Option Operand) {ty : TypeId} {pos : String} {after : Array Edge} {guard : Option (Nat × Bool)} (hT : TmpOK ρ E tmps a (Op.makeMap t r).operands)
    {K : Res → Bool} (h : evR0 P H tmps ⟨dst, .makeMap t r, ty, pos, after, guard⟩ K = true) : ∃ q, K q = true ∧ Tells P ρ E (execOp a.eval ⟨dst, .makeMap t r, ty, pos, after, guard⟩) w q := by
  cases r <;> simp only [evR0] at h <;> (try (cases h; done))
  split at h
  · refine ⟨_, h, { w with heap := w.heap.push (.map #[] 0) }, .map #[] 0, .map (some w.heap.size), 0, 1, run_v ?_, pushed_new w _, fun E' b hE hb => ⟨⟨#[], rfl, .nil⟩, .map _ _ hb⟩⟩
    simp [Instr.makeMap, newObj, Sem.run]
  · cases h
theorem evR0_makeSlice (hρ : ∀ i, (ρ i).oneCell' = true) (hR : Rel ρ E H w) {tmps : List AV} {a : Act} {dst : Option Tmp} (t : TypeId) (l c : Operand) {ty : TypeId} {pos : String} {after : Array Edge} {guard : Option (Nat × Bool)} (hT : TmpOK ρ E tmps a (Op.makeSlice t l c).operands)
    {K : Res → Bool} (h : evR0 P H tmps ⟨dst, .makeSlice t l c, ty, pos, after, guard⟩ K = true) : ∃ q, K q = true ∧ Tells P ρ E (execOp a.eval ⟨dst, .makeSlice t l c, ty, pos, after, guard⟩) w q := by
  simp only [evR0] at h
  split at h
  · rename_i e x y hu h1 h2
    split at h
    · rename_i lv cv n z i h3 h4 h5 h6 h7
      obtain ⟨hc, h⟩ := cond_true' h
      simp only [Bool.and_eq_true] at hc
      obtain ⟨⟨⟨⟨c1, c2⟩, c3⟩, c4⟩, c5⟩ := hc
      have c1 := ble' c1; have c2 := blt' c2; have c3 := blt' c3; have c4 := beq_iff'.1 c4; have c5 := blt' c5
      obtain ⟨k1, e1, _⟩ := nat_sound h3 (aop_ok hT (by simp [Op.operands]) h1)
      obtain ⟨k2, e2, _⟩ := nat_sound h4 (aop_ok hT (by simp [Op.operands]) h2)
      obtain ⟨v, hr, hv⟩ := run_zero (ρ := ρ) (E := E) h6 w
      have hvc := cells_sound hρ hv (zero_noTop ‹_›)
      have hvs : v.cells.size = n := by have := hvc.length; simp at this; omega
      have hzc : VRs ρ E (repeats z.cells cv) (((Array.range (cv * n)).map (fun x => v.cells[x % v.cells.size]!)).toList) := by
        rw [range_map _ (by omega)]
        have := repeats_sound hvc cv
        rw [Array.length_toList, hvs] at this
        rw [Array.length_toList, hvs]
        exact this
      refine ⟨_, h, tell_row (s := Instr.makeSlice t (a.eval l) (a.eval c)) (v := .slice (some ⟨w.heap.size, 0, none⟩) lv cv) (e := e) ?_ hzc (fun E' b hb => .sliceX _ _ _ _ _ hb) rfl⟩
      rw [e1, e2]
      unfold Instr.makeSlice
      have w1 : IntKind.i64.wrap (lv : Int) = (lv : Int) := by rw [IntKind.wrap_i64]; omega
      have w2 : IntKind.i64.wrap (cv : Int) = (cv : Int) := by rw [IntKind.wrap_i64]; omega
      have hb : (i.bytes : Int) * (cv : Int) ≤ 1048576 := by
        have := Int.ofNat_lt.2 c3
        rw [Int.natCast_mul, Int.mul_comm] at this
        exact Int.le_of_lt this
      simp only [Sem.run_bind, Result.andThen_ok, run_und hu, asInt, asIntOf, Sem.run_pure, run_info h7, w1, w2]
      have ht : (decide ((cv : Int) < 0) || decide ((i.bytes : Int) * (cv : Int) > 2 ^ 48) || decide ((lv : Int) < 0) || decide ((lv : Int) > (cv : Int))) = false := by
        simp only [Bool.or_eq_false_iff, decide_eq_false_iff_not]
        refine ⟨⟨⟨?_, ?_⟩, ?_⟩, ?_⟩ <;> omega
      simp only [ht, Bool.false_eq_true, if_false, Int.toNat_natCast, askRoom]
      rw [if_neg (by simp only [roomBytes]; omega)]
      by_cases h0 : cv * n = 0
      · have hcv : cv = 0 := by rcases Nat.mul_eq_zero.1 h0 with h | h <;> omega
        subst hcv
        have e0 : ∀ f : Nat → Value, Array.map f (Array.range (0 * n)) = #[] := fun f => by simp
        simp only [e0, Sem.run_pure, Result.andThen_ok, Sem.run_bind, run_size h5, newRow, newObj, Sem.run, Nat.zero_mul, if_true]
        simp only [show ∀ f : Nat → Value, Array.map f (Array.range 0) = #[] from fun f => by simp]
      · simp only [Sem.run_pure, Result.andThen_ok, Sem.run_bind, run_size h5, if_neg h0, hr, newRow, newObj, Sem.run]
    · cases h
  · cases h
theorem evR0_slice (hρ : ∀ i, (ρ i).oneCell' = true) (hR : Rel ρ E H w) {tmps : List AV} {a : Act} {dst : Option Tmp} (t : TypeId) (x : Operand) (lo hi mx : Option Operand) {ty : TypeId} {pos : String} {after : Array Edge} {guard : Option (Nat × Bool)} (hT : TmpOK ρ E tmps a (Op.slice t x lo hi mx).operands)
    {K : Res → Bool} (h : evR0 P H tmps ⟨dst, .slice t x lo hi mx, ty, pos, after, guard⟩ K = true) : ∃ q, K q = true ∧ Tells P ρ E (execOp a.eval ⟨dst, .slice t x lo hi mx, ty, pos, after, guard⟩) w q := by
  simp only [evR0] at h
  split at h
  · rename_i u lo' hi' mx' h1 h2 h3 h4
    have key : ∀ (y : Option Operand) (b : Option AV), (y.elim (some none) fun x => (aop tmps x).map some) = some b → (∀ z, y = some z → z ∈ (Op.slice t x lo hi mx).operands) → OVR ρ E b (y.map a.eval) := by
      intro y b hy hm
      cases y with
      | none => simp at hy; subst hy; exact .none
      | some z =>
        simp only [Option.elim_some, Option.map_eq_some_iff] at hy
        obtain ⟨c, hc, rfl⟩ := hy
        exact .some _ _ (aop_ok hT (hm z rfl) hc)
    exact aSlice_sound hR h (aop_ok hT (by simp [Op.operands]) h1) (key lo lo' h2 fun z e => by subst e; simp [Op.operands]) (key hi hi' h3 fun z e => by subst e; simp [Op.operands]) (key mx mx' h4 fun z e => by subst e; simp [Op.operands])
  · cases h
theorem evR0_fieldAddr (hρ : ∀ i, (ρ i).oneCell' = true) (hR : Rel ρ E H w) {tmps : List AV} {a : Act} {dst : Option Tmp} (s : TypeId) (x : Operand) (i : Nat) {ty : TypeId} {pos : String} {after : Array Edge} {guard : Option (Nat × Bool)} (hT : TmpOK ρ E tmps a (Op.fieldAddr s x i).operands)
    {K : Res → Bool} (h : evR0 P H tmps ⟨dst, .fieldAddr s x i, ty, pos, after, guard⟩ K = true) : ∃ q, K q = true ∧ Tells P ρ E (execOp a.eval ⟨dst, .fieldAddr s x i, ty, pos, after, guard⟩) w q := by
  simp only [evR0] at h
  split at h
  · rename_i b off fs h1 h2
    split at h
    · rename_i f hf
      split at h
      · rename_i n hn
        rw [force_eq] at h
        have e := aop_ok hT (by simp [Op.operands]) h1
        generalize hx : a.eval x = vx at e
        cases e with
        | ptr _ _ r hr =>
          unfold fields at h2
          split at h2
          · rename_i fa hu
            simp at h2; subst h2
            have hfi : fa[i]? = some f := by rw [List.head?_drop] at hf; simpa using hf
            refine ⟨_, h, tell (s := Instr.fieldAt s (a.eval x) i) (v := .pointer (some ⟨r.blk, off + f.offset, none⟩)) ?_ (.ptr _ _ _ hr)⟩
            simp [Instr.fieldAt, hx, run_und hu, hfi, Instr.sureAddr, fieldPlace, run_size hn, add_none]
          · cases h2
      · cases h
    · cases h
  · rename_i cs fs h1 h2
    split at h
    · rename_i f hf
      split at h
      · rename_i n hn
        obtain ⟨hle, h⟩ := cond_true' h
        have hle := ble' hle
        have e := aop_ok hT (by simp [Op.operands]) h1
        generalize hx : a.eval x = vx at e
        cases e with
        | dptr _ b off c elem fr hd hsz hrow =>
          unfold fields at h2
          split at h2
          · rename_i fa hu
            simp at h2; subst h2
            have hfi : fa[i]? = some f := by rw [List.head?_drop] at hf; simpa using hf
            refine ⟨_, h, tell (s := Instr.fieldAt s (a.eval x) i) (v := .pointer (some ⟨b, off + f.offset, none⟩)) ?_ (.dptr _ b _ c elem fr hd (by simp; omega) ?_)⟩
            · simp [Instr.fieldAt, hx, run_und hu, hfi, Instr.sureAddr, fieldPlace, run_size hn, add_none]
            · have := hrow.drop f.offset
              rw [List.drop_take, List.drop_drop] at this
              simpa using this
          · cases h2
      · cases h
    · cases h
  · rename_i b j o fs h1 h2
    split at h
    · rename_i f hf
      split at h
      · rename_i n hn
        rw [fNat_eq] at h
        have e := aop_ok hT (by simp [Op.operands]) h1
        generalize hx : a.eval x = vx at e
        cases e with
        | gptr _ _ _ r hr =>
          unfold fields at h2
          split at h2
          · rename_i fa hu
            simp at h2; subst h2
            have hfi : fa[i]? = some f := by rw [List.head?_drop] at hf; simpa using hf
            refine ⟨_, h, tell (s := Instr.fieldAt s (a.eval x) i) (v := .pointer (some ⟨r.blk, j * r.esz + (o + f.offset), none⟩)) ?_ (.gptr b j _ r hr)⟩
            simp [Instr.fieldAt, hx, run_und hu, hfi, Instr.sureAddr, fieldPlace, run_size hn, add_none, Nat.add_assoc]
          · cases h2
      · cases h
    · cases h
  · cases h
theorem evR0_field (hρ : ∀ i, (ρ i).oneCell' = true) (hR : Rel ρ E H w) {tmps : List AV} {a : Act} {dst : Option Tmp} (t : TypeId) (x : Operand) (i : Nat) {ty : TypeId} {pos : String} {after : Array Edge} {guard : Option (Nat × Bool)} (hT : TmpOK ρ E tmps a (Op.field t x i).operands)
    {K : Res → Bool} (h : evR0 P H tmps ⟨dst, .field t x i, ty, pos, after, guard⟩ K = true) : ∃ q, K q = true ∧ Tells P ρ E (execOp a.eval ⟨dst, .field t x i, ty, pos, after, guard⟩) w q := by
  simp only [evR0] at h
  split at h
  · rename_i cs fs h1 h2
    split at h
    · rename_i f hf
      split at h
      · rename_i q hq
        have e := aop_ok hT (by simp [Op.operands]) h1
        generalize hx : a.eval x = vx at e
        cases e with
        | agg _ vs hv =>
          unfold fields at h2
          split at h2
          · rename_i fa hu
            simp at h2; subst h2
            have hfi : fa[i]? = some f := by rw [List.head?_drop] at hf; simpa using hf
            obtain ⟨v, h3, h4⟩ := part_sound (P := P) hq hv w
            refine ⟨_, h, tell (s := Instr.field t (a.eval x) i) ?_ h4⟩
            simp [Instr.field, hx, run_und hu, hfi, asAgg, h3]
          · cases h2
      · cases h
    · cases h
  · cases h
theorem index_gsl (hR : Rel ρ E H w) {t e : TypeId} {b z n m : Nat} {f : Nat → List AV} {a : Act} {x i : Operand} {k : Int} {kk : IntKind} {K : Res → Bool} (h : K (.val (.gptr b k.toNat 0)) = true) (hv : VR ρ E (.gsl b n) (a.eval x)) (hu : P.underlying t = some (.slice e)) (hz : size P e = some z)
    (hs : seqAt H b = some (z, m, f)) (h0 : 0 ≤ k) (hk : k.toNat < n) (hy : a.eval i = .int kk k) : ∃ q, K q = true ∧ Tells P ρ E (do pure (Next.value (← Instr.indexAt t (a.eval x) (a.eval i)))) w q := by
  obtain ⟨k, rfl⟩ : ∃ m : Nat, k = (m : Int) := ⟨k.toNat, by omega⟩
  simp only [Int.toNat_natCast] at h hk
  generalize hx : a.eval x = vx at hv
  cases hv with
  | gsl _ _ cap r hb hc hsz =>
    obtain ⟨c, elem, fr, hw, h1, h2, h3, h4, h5, h6, h8⟩ := seq_rel hR hs hb
    refine ⟨_, h, tell (v := .pointer (some ⟨r.blk, k * r.esz + 0, none⟩)) ?_ (.gptr b k 0 r hb)⟩
    simp [Instr.indexAt, hy, asIntOf, run_und hu, hk, run_size hz, add_none, h4]
  | gsl0 _ a => omega
theorem index_data {t e : TypeId} {z n : Nat} {f : Nat → List AV} {a : Act} {x i : Operand} {k : Int} {kk : IntKind} {K : Res → Bool} (h : K (.val (.dptr (f k.toNat))) = true) (hv : VR ρ E (.data z n f) (a.eval x)) (hu : P.underlying t = some (.slice e)) (hz : size P e = some z)
    (h0 : 0 ≤ k) (hk : k.toNat < n) (hy : a.eval i = .int kk k) : ∃ q, K q = true ∧ Tells P ρ E (do pure (Next.value (← Instr.indexAt t (a.eval x) (a.eval i)))) w q := by
  obtain ⟨k, rfl⟩ : ∃ m : Nat, k = (m : Int) := ⟨k.toNat, by omega⟩
  simp only [Int.toNat_natCast] at h hk
  generalize hx : a.eval x = vx at hv
  cases hv with
  | data z n f b off cap c elem fr hd hcap hsz hlen hrow =>
    have hle : k * z + z ≤ n * z := by rw [← Nat.succ_mul]; exact Nat.mul_le_mul_right z hk
    refine ⟨_, h, tell (v := .pointer (some ⟨b, off + k * z, none⟩)) ?_ (.dptr _ b _ c elem fr hd (by rw [hlen k hk]; omega) (by rw [hlen k hk]; exact hrow k hk))⟩
    simp [Instr.indexAt, hy, asIntOf, run_und hu, hk, run_size hz, add_none]
  | data0 z f a c => omega
  | dataN z f => omega
theorem evR0_indexAddr (hρ : ∀ i, (ρ i).oneCell' = true) (hR : Rel ρ E H w) {tmps : List AV} {a : Act} {dst : Option Tmp} (t : TypeId) (x i : Operand) {ty : TypeId} {pos : String} {after : Array Edge} {guard : Option (Nat × Bool)} (hT : TmpOK ρ E tmps a (Op.indexAddr t x i).operands)
    {K : Res → Bool} (h : evR0 P H tmps ⟨dst, .indexAddr t x i, ty, pos, after, guard⟩ K = true) : ∃ q, K q = true ∧ Tells P ρ E (execOp a.eval ⟨dst, .indexAddr t x i, ty, pos, after, guard⟩) w q := by
  simp only [evR0] at h
  split at h
  · rename_i n e b off kk iv hu h1 h2
    split at h
    · rename_i z hz
      obtain ⟨k, c1, hk, h'⟩ := forkIx_spec h
      clear h
      have h := h'
      clear h'
      rw [force_eq] at h
      have e1 := aop_ok hT (by simp [Op.operands]) h1
      have e2 := aop_ok hT (by simp [Op.operands]) h2
      generalize hx : a.eval x = vx at e1
      generalize hy : a.eval i = vy at e2
      cases e2
      subst hk
      cases e1 with
      | ptr _ _ r hr =>
        refine ⟨_, h, tell (s := Instr.indexAt t (a.eval x) (a.eval i)) (v := .pointer (some ⟨r.blk, off + k * z, none⟩)) ?_ (.ptr _ _ _ hr)⟩
        simp [Instr.indexAt, hx, hy, asIntOf, run_und hu, Instr.sureAddr, c1, run_size hz, add_none]
    · cases h
  · rename_i e b off n cap ex kk iv hu h1 h2
    split at h
    · rename_i z hz
      obtain ⟨k, c1, hk, h'⟩ := forkIx_spec h
      clear h
      have h := h'
      clear h'
      rw [force_eq] at h
      have e1 := aop_ok hT (by simp [Op.operands]) h1
      have e2 := aop_ok hT (by simp [Op.operands]) h2
      generalize hy : a.eval i = vy at e2
      cases e2
      subst hk
      have hr : ∃ r c', a.eval x = .slice (some ⟨r.blk, off, none⟩) n c' ∧ E b = some r := by
        generalize a.eval x = vx at e1
        cases e1 with
        | sliceX _ _ _ _ r h => exact ⟨r, _, rfl, h⟩
        | sliceG _ _ _ _ c' r h => exact ⟨r, _, rfl, h⟩
      obtain ⟨r, c', hx, hr⟩ := hr
      refine ⟨_, h, tell (s := Instr.indexAt t (a.eval x) (a.eval i)) (v := .pointer (some ⟨r.blk, off + k * z, none⟩)) ?_ (.ptr _ _ _ hr)⟩
      simp [Instr.indexAt, hx, hy, asIntOf, run_und hu, c1, run_size hz, add_none]
    · cases h
  · rename_i e z n f kk iv hu h1 h2
    split at h
    · rename_i z' hz
      obtain ⟨hzz, h'⟩ := cond_true' h
      clear h
      obtain rfl := beq_iff'.1 hzz
      obtain ⟨hc, h⟩ := fork_true' h'
      clear h'
      have hc := of_decide_eq_true hc
      have e2 := aop_ok hT (by simp [Op.operands]) h2
      generalize hy : a.eval i = vy at e2
      cases e2
      exact index_data h (aop_ok hT (by simp [Op.operands]) h1) hu hz hc.1 hc.2 hy
    · cases h
  · rename_i e z n f kk iv hu h1 h2
    split at h
    · rename_i z' hz
      obtain ⟨hzz, h'⟩ := cond_true' h
      clear h
      obtain rfl := beq_iff'.1 hzz
      obtain ⟨hc, h⟩ := fork_true' h'
      clear h'
      have hc := of_decide_eq_true hc
      have e2 := aop_ok hT (by simp [Op.operands]) h2
      generalize hy : a.eval i = vy at e2
      cases e2
      exact index_data h (aop_ok hT (by simp [Op.operands]) h1) hu hz hc.1 hc.2 hy
    · cases h
  · rename_i e b n kk iv hu h1 h2
    split at h
    · rename_i z' z f0 f1 hz hs
      obtain ⟨hzz, h'⟩ := cond_true' h
      clear h
      obtain rfl := beq_iff'.1 hzz
      obtain ⟨hc, h⟩ := fork_true' h'
      clear h'
      have hc := of_decide_eq_true hc
      have e2 := aop_ok hT (by simp [Op.operands]) h2
      generalize hy : a.eval i = vy at e2
      cases e2
      exact index_gsl hR h (aop_ok hT (by simp [Op.operands]) h1) hu hz hs hc.1 hc.2 hy
    · cases h
  · rename_i e b n kk iv hu h1 h2
    split at h
    · rename_i z' z f0 f1 hz hs
      obtain ⟨hzz, h'⟩ := cond_true' h
      clear h
      obtain rfl := beq_iff'.1 hzz
      obtain ⟨hc, h⟩ := fork_true' h'
      clear h'
      have hc := of_decide_eq_true hc
      have e2 := aop_ok hT (by simp [Op.operands]) h2
      generalize hy : a.eval i = vy at e2
      cases e2
      exact index_gsl hR h (aop_ok hT (by simp [Op.operands]) h1) hu hz hs hc.1 hc.2 hy
    · cases h
  · rename_i n e b off iv _ hu h1 h2
    split at h
    · rename_i k z hk hz
      obtain ⟨c1, h⟩ := cond_true' h
      have c1 := blt' c1
      rw [force_eq] at h
      have e1 := aop_ok hT (by simp [Op.operands]) h1
      obtain ⟨kk, e2, _⟩ := nat_sound hk (aop_ok hT (by simp [Op.operands]) h2)
      generalize hx : a.eval x = vx at e1
      cases e1 with
      | ptr _ _ r hr =>
        refine ⟨_, h, tell (s := Instr.indexAt t (a.eval x) (a.eval i)) (v := .pointer (some ⟨r.blk, off + k * z, none⟩)) ?_ (.ptr _ _ _ hr)⟩
        have hlt : (0 : Int) ≤ (k : Int) ∧ (k : Int) < (n : Int) := by omega
        simp [Instr.indexAt, hx, e2, asIntOf, run_und hu, Instr.sureAddr, c1, run_size hz, add_none]
    · cases h
  · rename_i e b off n cap ex iv _ hu h1 h2
    split at h
    · rename_i k z hk hz
      obtain ⟨c1, h⟩ := cond_true' h
      have c1 := blt' c1
      rw [force_eq] at h
      have e1 := aop_ok hT (by simp [Op.operands]) h1
      obtain ⟨kk, e2, _⟩ := nat_sound hk (aop_ok hT (by simp [Op.operands]) h2)
      have hr : ∃ r c', a.eval x = .slice (some ⟨r.blk, off, none⟩) n c' ∧ E b = some r := by
        generalize a.eval x = vx at e1
        cases e1 with
        | sliceX _ _ _ _ r h => exact ⟨r, _, rfl, h⟩
        | sliceG _ _ _ _ c' r h => exact ⟨r, _, rfl, h⟩
      obtain ⟨r, c', hx, hr⟩ := hr
      refine ⟨_, h, tell (s := Instr.indexAt t (a.eval x) (a.eval i)) (v := .pointer (some ⟨r.blk, off + k * z, none⟩)) ?_ (.ptr _ _ _ hr)⟩
      simp [Instr.indexAt, hx, e2, asIntOf, run_und hu, c1, run_size hz, add_none]
    · cases h
  · cases h
theorem evR0_index (hρ : ∀ i, (ρ i).oneCell' = true) (hR : Rel ρ E H w) {tmps : List AV} {a : Act} {dst : Option Tmp} (t : TypeId) (x i : Operand) {ty : TypeId} {pos : String} {after : Array Edge} {guard : Option (Nat × Bool)} (hT : TmpOK ρ E tmps a (Op.index t x i).operands)
    {K : Res → Bool} (h : evR0 P H tmps ⟨dst, .index t x i, ty, pos, after, guard⟩ K = true) : ∃ q, K q = true ∧ Tells P ρ E (execOp a.eval ⟨dst, .index t x i, ty, pos, after, guard⟩) w q := by
  simp only [evR0] at h
  split at h
  · rename_i n e cs kk iv hu h1 h2
    split at h
    · rename_i z hz
      obtain ⟨k, c1, hk, h'⟩ := forkIx_spec h
      clear h
      have h := h'
      clear h'
      split at h
      · rename_i q hq
        have e1 := aop_ok hT (by simp [Op.operands]) h1
        have e2 := aop_ok hT (by simp [Op.operands]) h2
        generalize hx : a.eval x = vx at e1
        generalize hy : a.eval i = vy at e2
        cases e2
        subst hk
        cases e1 with
        | agg _ vs hv =>
          obtain ⟨v, h3, h4⟩ := part_sound (P := P) hq hv w
          refine ⟨_, h, tell (s := Instr.index t (a.eval x) (a.eval i)) ?_ h4⟩
          simp [Instr.index, hx, hy, asIntOf, run_und hu, c1, run_size hz, h3]
      · cases h
    · cases h
  · rename_i n e cs iv _ hu h1 h2
    split at h
    · rename_i k z hk hz
      obtain ⟨c1, h⟩ := cond_true' h
      have c1 := blt' c1
      split at h
      · rename_i q hq
        have e1 := aop_ok hT (by simp [Op.operands]) h1
        obtain ⟨kk, e2, _⟩ := nat_sound hk (aop_ok hT (by simp [Op.operands]) h2)
        generalize hx : a.eval x = vx at e1
        cases e1 with
        | agg _ vs hv =>
          obtain ⟨v, h3, h4⟩ := part_sound (P := P) hq hv w
          refine ⟨_, h, tell (s := Instr.index t (a.eval x) (a.eval i)) ?_ h4⟩
          simp [Instr.index, hx, e2, asIntOf, run_und hu, c1, run_size hz, h3]
      · cases h
    · cases h
  · rename_i s iv hu h1 h2
    split at h
    · rename_i k hk
      split at h
      · rename_i q hq
        have e1 := aop_ok hT (by simp [Op.operands]) h1
        obtain ⟨kk, e2, _⟩ := nat_sound hk (aop_ok hT (by simp [Op.operands]) h2)
        generalize hx : a.eval x = vx at e1
        cases e1 with
        | str _ hs =>
          refine ⟨_, h, tell (s := Instr.index t (a.eval x) (a.eval i)) (v := .int .u8 (q : Int)) ?_ (.int _ _)⟩
          rw [List.head?_drop] at hq
          have hq256 := hs q (List.mem_of_getElem? hq)
          have hget : (⟨⟨s.map UInt8.ofNat⟩⟩ : ByteArray)[k]? = some (UInt8.ofNat q) := by
            obtain ⟨hlt, hk⟩ := List.getElem?_eq_some_iff.1 hq
            have h1 : k < (⟨⟨s.map UInt8.ofNat⟩⟩ : ByteArray).size := by simpa [ByteArray.size] using hlt
            rw [getElem?_pos (⟨⟨s.map UInt8.ofNat⟩⟩ : ByteArray) k h1]
            congr 1
            simp [ByteArray.getElem_eq_getElem_data, hk]
          simp [Instr.index, hx, e2, asIntOf, run_und hu, hget, Nat.mod_eq_of_lt hq256]
      · cases h
    · cases h
  · cases h
theorem evR0_extract (hρ : ∀ i, (ρ i).oneCell' = true) (hR : Rel ρ E H w) {tmps : List AV} {a : Act} {dst : Option Tmp} (x : Operand) (i : Nat) {ty : TypeId} {pos : String} {after : Array Edge} {guard : Option (Nat × Bool)} (hT : TmpOK ρ E tmps a (Op.extract x i).operands)
    {K : Res → Bool} (h : evR0 P H tmps ⟨dst, .extract x i, ty, pos, after, guard⟩ K = true) : ∃ q, K q = true ∧ Tells P ρ E (execOp a.eval ⟨dst, .extract x i, ty, pos, after, guard⟩) w q := by
  simp only [evR0] at h
  split at h
  · rename_i l h1
    split at h
    · rename_i q hq
      have e1 := aop_ok hT (by simp [Op.operands]) h1
      generalize hx : a.eval x = vx at e1
      cases e1 with
      | tuple _ vs hv =>
        rw [List.head?_drop] at hq
        obtain ⟨v, h3, h4⟩ := hv.at_ hq
        refine ⟨_, h, tell (s := Instr.extract (a.eval x) i) (v := v) ?_ h4⟩
        have : vs[i]? = some v := by simpa using h3
        simp [Instr.extract, hx, this]
    · cases h
  · cases h
theorem pin_spec {j : IntKind} {x : Int} {K : AV → Bool} : ∀ {es : List Ent}, pin j x K es = true → K (.int j x) = true
  | [], h => by cases h
  | e :: r, h => by
    unfold pin at h
    split at h
    · rcases fork_split' h with ⟨hd, h⟩ | ⟨_, h⟩
      · rw [of_decide_eq_true hd]; exact h
      · exact pin_spec h
    · cases h
theorem aLook_pin {kt e : TypeId} {es : List Ent} {ok : Bool} {k : AV} {v : Value} {K : Res → Bool} (h : aLook P kt e es ok k K = true) (hv : VR ρ E k v) : ∃ k', aLook0 P kt e es ok k' K = true ∧ VR ρ E k' v := by
  unfold aLook at h
  split at h
  · cases hv
    exact ⟨_, pin_spec h, .int _ _⟩
  · exact ⟨_, h, hv⟩
theorem evR0_lookup (hρ : ∀ i, (ρ i).oneCell' = true) (hR : Rel ρ E H w) {tmps : List AV} {a : Act} {dst : Option Tmp} (t : TypeId) (x k : Operand) (ok : Bool) {ty : TypeId} {pos : String} {after : Array Edge} {guard : Option (Nat × Bool)} (hT : TmpOK ρ E tmps a (Op.lookup t x k ok).operands)
    {K : Res → Bool} (h : evR0 P H tmps ⟨dst, .lookup t x k ok, ty, pos, after, guard⟩ K = true) : ∃ q, K q = true ∧ Tells P ρ E (execOp a.eval ⟨dst, .lookup t x k ok, ty, pos, after, guard⟩) w q := by
  simp only [evR0] at h
  split at h
  · rename_i kt e m kv hu h1 h2
    have e1 := aop_ok hT (by simp [Op.operands]) h1
    have e2 := aop_ok hT (by simp [Op.operands]) h2
    split at h
    · split at h
      · rename_i kk z h3 hz
        split at h
        · rename_i h4 h5
          obtain ⟨v, hr, hv⟩ := run_zero (ρ := ρ) (E := E) hz w
          have ek := toV_sound h3 e2
          generalize hx : a.eval x = vx at e1
          cases e1
          have c1 := asPure_run h4 w
          have c2 := asPure_run h5 w
          refine ⟨_, h, tell (s := Instr.lookup t (a.eval x) (a.eval k) ok) (v := if ok then .tuple #[v, .bool false] else v) ?_ ?_⟩
          · unfold Instr.lookup
            simp only [Sem.run_bind, run_und hu, hx, ek, Result.andThen_ok, Sem.run_pure, show (#[] : Array MapEntry).isEmpty = true from rfl, c1, c2, hr]
          · cases ok
            · exact hv
            · exact .tuple _ _ (.cons _ _ _ _ hv (.cons _ _ _ _ (.bool _) .nil))
        · cases h
      · cases h
    · split at h
      · rename_i c es ck hes
        obtain ⟨k', h, e2⟩ := aLook_pin h e2
        unfold aLook0 at h
        generalize hx : a.eval x = vx at e1
        cases e1 with
        | map _ r hr =>
          obtain ⟨ms, hw, hER⟩ := map_rel hR hes hr
          have hobj := run_getObj (P := P) hw (fun _ _ _ h => by cases h)
          split at h
          · rename_i i hfk
            obtain ⟨c1, _, r', c3, _, c4⟩ := findK_sound hfk e2 hER w
            obtain ⟨en, mm, c5, c6, c7, c8, c9, _⟩ := c4 i rfl
            split at h
            · rename_i en' hen
              rw [List.head?_drop, c5] at hen
              simp at hen; subst hen
              subst c7
              refine ⟨_, h, tell (s := Instr.lookup t (a.eval x) (a.eval k) ok) (v := if ok then .tuple #[mm.val, .bool true] else mm.val) ?_ ?_⟩
              · unfold Instr.lookup
                simp only [Sem.run_bind, run_und hu, hx, Result.andThen_ok, Sem.run_pure, hobj, show ms.isEmpty = ms.toList.isEmpty by simp, c1, c3]
              · cases ok
                · exact c9
                · exact .tuple _ _ (.cons _ _ _ _ c9 (.cons _ _ _ _ (.bool _) .nil))
            · cases h
          · rename_i hfk
            obtain ⟨c1, _, r', c3, c4, _⟩ := findK_sound hfk e2 hER w
            have c4 := c4 rfl
            subst c4
            split at h
            · rename_i z hz
              obtain ⟨v, hr, hv⟩ := run_zero (ρ := ρ) (E := E) hz w
              refine ⟨_, h, tell (s := Instr.lookup t (a.eval x) (a.eval k) ok) (v := if ok then .tuple #[v, .bool false] else v) ?_ ?_⟩
              · unfold Instr.lookup
                simp only [Sem.run_bind, run_und hu, hx, Result.andThen_ok, Sem.run_pure, hobj, show ms.isEmpty = ms.toList.isEmpty by simp, c1, c3, hr]
              · cases ok
                · exact hv
                · exact .tuple _ _ (.cons _ _ _ _ hv (.cons _ _ _ _ (.bool _) .nil))
            · cases h
          · cases h
      · cases h
    · cases h
  · cases h
theorem evR0_range (hρ : ∀ i, (ρ i).oneCell' = true) (hR : Rel ρ E H w) {tmps : List AV} {a : Act} {dst : Option Tmp} (t : TypeId) (x : Operand) {ty : TypeId} {pos : String} {after : Array Edge} {guard : Option (Nat × Bool)} (hT : TmpOK ρ E tmps a (Op.range t x).operands)
    {K : Res → Bool} (h : evR0 P H tmps ⟨dst, .range t x, ty, pos, after, guard⟩ K = true) : ∃ q, K q = true ∧ Tells P ρ E (execOp a.eval ⟨dst, .range t x, ty, pos, after, guard⟩) w q := by
  simp only [evR0] at h
  split at h
  · rename_i kt e hu h1
    have e1 := aop_ok hT (by simp [Op.operands]) h1
    generalize hx : a.eval x = vx at e1
    cases e1
    refine ⟨_, h, { w with heap := w.heap.push (.mapIter none 0 #[] 0) }, .mapIter none 0 #[] 0, .pointer (some ⟨w.heap.size, 0, none⟩), 0, 1, run_v (s := Instr.range t (a.eval x)) ?_, pushed_new w _, fun E' b hE hb => ⟨⟨none, rfl, fun _ => rfl, fun _ h => by cases h⟩, .ptr _ _ _ hb⟩⟩
    simp [Instr.range, run_und hu, hx, newObj, Sem.run]
  · rename_i kt e b hu h1
    have e1 := aop_ok hT (by simp [Op.operands]) h1
    generalize hx : a.eval x = vx at e1
    cases e1 with
    | map _ r hr =>
      split at h
      · rename_i c es ck hes
        obtain ⟨ms, hw, _⟩ := map_rel hR hes hr
        have hobj := run_getObj (P := P) hw (fun _ _ _ h => by cases h)
        refine ⟨_, h, { w with heap := w.heap.push (.mapIter (some r.blk) ck #[] ck) }, .mapIter (some r.blk) ck #[] ck, .pointer (some ⟨w.heap.size, 0, none⟩), 0, 1, run_v (s := Instr.range t (a.eval x)) ?_, pushed_new w _, fun E' b' hE hb => ⟨⟨some r.blk, rfl, (fun h => by cases h), fun b2 h2 => by simp at h2; subst h2; exact ⟨r, hE _ _ hr, rfl⟩⟩, .ptr _ _ _ hb⟩⟩
        unfold Instr.range
        simp only [Sem.run_bind, run_und hu, hx, Result.andThen_ok, hobj, Sem.run_pure, newObj, Sem.run]
      · cases h
  · cases h
theorem evR0_entry (hρ : ∀ i, (ρ i).oneCell' = true) (hR : Rel ρ E H w) {tmps : List AV} {a : Act} {dst : Option Tmp} (x : Operand) {ty : TypeId} {pos : String} {after : Array Edge} {guard : Option (Nat × Bool)} (hT : TmpOK ρ E tmps a (Op.entry x).operands)
    {K : Res → Bool} (h : evR0 P H tmps ⟨dst, .entry x, ty, pos, after, guard⟩ K = true) : ∃ q, K q = true ∧ Tells P ρ E (execOp a.eval ⟨dst, .entry x, ty, pos, after, guard⟩) w q := by
  simp only [evR0] at h
  split at h
  · rename_i b h1
    have e1 := aop_ok hT (by simp [Op.operands]) h1
    generalize hx : a.eval x = vx at e1
    cases e1 with
    | ptr _ _ r hr =>
      split at h
      · rename_i c m since seen st hit
        split at h
        · rename_i s c' es ck hs hes
          obtain ⟨c1, hq⟩ := cond_true' h
          clear h
          have c1 := beq_iff'.1 c1
          subst c1
          split at hq
          · rename_i en hen
            obtain ⟨_, k0, hk0, hB⟩ := hR.blk b r hr
            rw [hit] at hk0; cases hk0
            obtain ⟨m', hw, _, hm2⟩ := hB
            obtain ⟨rm, hrm, hm'⟩ := hm2 m rfl
            subst hm'
            obtain ⟨ms, hwm, hER⟩ := map_rel hR hes hrm
            have ho1 := run_getObj (P := P) hw (fun _ _ _ h => by cases h)
            have ho2 := run_getObj (P := P) hwm (fun _ _ _ h => by cases h)
            obtain ⟨mm, hf, hvk, hvv⟩ := hER.find hen
            have hback : seen.toArray.back? = some s := by simpa using hs
            have hfind : ms.find? (fun x => x.born == s) = some mm := by rw [← Array.find?_toList]; exact hf
            refine ⟨_, hq, tell (s := Instr.entry (a.eval x)) (v := .tuple #[mm.key, mm.val]) ?_ (.tuple _ _ (.cons _ _ _ _ hvk (.cons _ _ _ _ hvv .nil)))⟩
            unfold Instr.entry
            simp only [Sem.run_bind, hx, ho1, Result.andThen_ok, hback, ho2, bne_self_eq_false, Bool.false_eq_true, if_false, hfind, Sem.run_pure]
          · cases hq
        · cases h
      · cases h
  · cases h
theorem evR0_call (hρ : ∀ i, (ρ i).oneCell' = true) (hR : Rel ρ E H w) {tmps : List AV} {a : Act} {dst : Option Tmp} (c : Call) {ty : TypeId} {pos : String} {after : Array Edge} {guard : Option (Nat × Bool)} (hT : TmpOK ρ E tmps a (Op.call c).operands)
    {K : Res → Bool} (h : evR0 P H tmps ⟨dst, .call c, ty, pos, after, guard⟩ K = true) : ∃ q, K q = true ∧ Tells P ρ E (execOp a.eval ⟨dst, .call c, ty, pos, after, guard⟩) w q := by
  obtain ⟨cal, args, ats⟩ := c
  cases cal with
  | value f => simp only [evR0] at h; cases h
  | invoke r m => simp only [evR0] at h; cases h
  | builtin b =>
    cases b <;> simp only [evR0] at h <;> (try (cases h; done))
    case len => exact evR0_len hR hT h
    case cap => exact evR0_cap hT h
    case max => exact evR0_max hT h
    case min => exact evR0_min hT h
theorem evR0_sound (hρ : ∀ i, (ρ i).oneCell' = true) (hR : Rel ρ E H w) {tmps : List AV} {a : Act} {o : Oper} (hT : TmpOK ρ E tmps a o.op.operands) {K : Res → Bool} (h : evR0 P H tmps o K = true) :
    ∃ q, K q = true ∧ Tells P ρ E (execOp a.eval o) w q := by
  obtain ⟨dst, op, ty, pos, after, guard⟩ := o
  cases op
  case move x => exact evR0_move hρ hR x hT h
  case assign x => exact evR0_assign hρ hR x hT h
  case pick c x y => exact evR0_pick hρ hR c x y hT h
  case alloc t => exact evR0_alloc hρ hR t hT h
  case box t x => exact evR0_box hρ hR t x hT h
  case build t ps => exact evR0_build hρ hR t ps hT h
  case buildSlice t len ps => exact evR0_buildSlice hρ hR t len ps hT h
  case load t x => exact evR0_load hρ hR t x hT h
  case nilCheck x => exact evR0_nilCheck hρ hR x hT h
  case binOp op t x y yt => exact evR0_binOp hρ hR op t x y yt hT h
  case unOp op t x => exact evR0_unOp hρ hR op t x hT h
  case convert s d x => exact evR0_convert hρ hR s d x hT h
  case makeFunc fn l m => exact evR0_makeFunc hρ hR fn l m hT h
  case makeMap t r => exact evR0_makeMap hρ hR t r hT h
  case makeSlice t l c => exact evR0_makeSlice hρ hR t l c hT h
  case slice t x lo hi mx => exact evR0_slice hρ hR t x lo hi mx hT h
  case fieldAddr s x i => exact evR0_fieldAddr hρ hR s x i hT h
  case field t x i => exact evR0_field hρ hR t x i hT h
  case indexAddr t x i => exact evR0_indexAddr hρ hR t x i hT h
  case index t x i => exact evR0_index hρ hR t x i hT h
  case extract x i => exact evR0_extract hρ hR x i hT h
  case lookup t x k ok => exact evR0_lookup hρ hR t x k ok hT h
  case range t x => exact evR0_range hρ hR t x hT h
  case entry x => exact evR0_entry hρ hR x hT h
  case call c => exact evR0_call hρ hR c hT h
  all_goals (simp only [evR0] at h; cases h)
theorem evR_sound (hρ : ∀ i, (ρ i).oneCell' = true) (hR : Rel ρ E H w) {tmps : List AV} {a : Act} {o : Oper} (hT : TmpOK ρ E tmps a o.op.operands) {K : Res → Bool} (h : evR P H tmps o K = true) :
    ∃ q, K q = true ∧ Tells P ρ E (execOp a.eval o) w q := evR0_sound hρ hR hT (by rw [← evR_eq]; exact h)
end Go.Proofs.Ytkdmlpmjfnjnmaa.Sv
