import Derived.Test.YtkdmlpmjfnjnmaaSvc
import Derived.ChangeKeysEq
/-! operations that leave memory as it is: the small words. -/
namespace Go.Proofs.Ytkdmlpmjfnjnmaa.Sv
open Go Go.RowKit

variable {P : Program} {ρ : Ctx} {E : Env} {H : AH} {w : World}

theorem aop_sound {tmps : List AV} {a : Act} {x : Operand} {b : AV} (h : aop tmps x = some b) (hT : ∀ t, x = .tmp t → VR ρ E (aget tmps t) (a.tmps.getD t undef)) : VR ρ E b (a.eval x) := by
  cases x with
  | tmp t => simp [aop] at h; subst h; exact hT t rfl
  | const v => exact ofV_sound h
  | global g => cases h
  | func f => simp [aop] at h; subst h; exact .fn f [] [] #[] #[] .nil .nil
theorem aops_sound {tmps : List AV} {a : Act} : ∀ {l : List Operand} {m : List AV}, aops tmps l = some m → (∀ t, .tmp t ∈ l → VR ρ E (aget tmps t) (a.tmps.getD t undef)) → VRs ρ E m (l.map a.eval)
  | [], m, h, _ => by simp [aops] at h; subst h; exact .nil
  | x :: r, m, h, hT => by
    unfold aops at h
    split at h
    · rename_i b l h1 h2
      simp at h; subst h
      exact .cons _ _ _ _ (aop_sound h1 fun t e => hT t (by simp [e])) (aops_sound h2 fun t e => hT t (by simp [e]))
    · cases h

theorem run_und {t : TypeId} {d : TypeDesc} (h : P.underlying t = some d) (w : World) : (underlying t).run P w = .ok d w := run_underlying h w
theorem run_info {t : TypeId} {i : TypeInfo} (h : P.info? t = some i) (w : World) : (typeInfo t).run P w = .ok i w := by
  simp [typeInfo, h, program, Sem.run]
theorem run_size {t : TypeId} {n : Nat} (h : size P t = some n) (w : World) : (sizeOf t).run P w = .ok n w := by
  unfold size at h
  cases hi : P.info? t with
  | none => simp [hi] at h
  | some i => simp [hi] at h; simp [sizeOf, run_info hi, h]
theorem run_agg {t : TypeId} {b : Bool} (h : isAgg P t = some b) (w : World) : (Go.isAgg t).run P w = .ok b w := by
  unfold isAgg at h
  cases hu : P.underlying t with
  | none => simp [hu] at h
  | some d =>
    simp only [hu] at h
    unfold Go.isAgg
    rw [Sem.run_bind, run_und hu]
    cases d <;> simp_all
theorem run_zero {t : TypeId} {a : AV} (h : zero P t = some a) (w : World) : ∃ v, (zeroValue t).run P w = .ok v w ∧ VR ρ E a v := by
  unfold zero at h
  cases hi : P.info? t with
  | none => simp [hi] at h
  | some i =>
    simp only [hi] at h
    cases hz : i.zero with
    | none => simp [hz] at h
    | some v =>
      simp only [hz] at h
      exact ⟨v, by simp [zeroValue, run_info hi, hz], ofV_sound h⟩

theorem firsts_spec : ∀ {n : Nat} {l m : List AV}, firsts n l = some m → m = l.take n ∧ n ≤ l.length
  | 0, l, m, h => by simp [firsts] at h; subst h; simp
  | n + 1, [], m, h => by simp [firsts] at h
  | n + 1, a :: r, m, h => by
    simp only [firsts] at h
    split at h
    · rename_i l hl
      simp at h; subst h
      obtain ⟨rfl, hn⟩ := firsts_spec hl
      exact ⟨by simp, by simp; omega⟩
    · cases h
theorem span_spec {l m : List AV} {off n : Nat} (h : span l off n = some m) : m = (l.drop off).take n ∧ (off + n ≤ l.length ∨ n = 0) := by
  obtain ⟨h1, h2⟩ := firsts_spec h
  refine ⟨h1, ?_⟩
  simp at h2
  omega
theorem VRs.span {l m : List AV} {vs : List Value} {off n : Nat} (h : VRs ρ E l vs) (hs : span l off n = some m) : VRs ρ E m ((vs.drop off).take n) := by
  obtain ⟨rfl, _⟩ := span_spec hs
  exact (h.drop off).take n

theorem part_sound {t : TypeId} {cs : List AV} {off : Nat} {a : AV} (h : part P t cs off = some a) {vs : Array Value} (hv : VRs ρ E cs vs.toList) (w : World) : ∃ v, (Go.part t vs off).run P w = .ok v w ∧ VR ρ E a v := by
  unfold part at h
  split at h
  · rename_i n h1 h2
    simp only [Option.map_eq_some_iff] at h
    obtain ⟨m, hm, rfl⟩ := h
    refine ⟨.agg (vs.extract off (off + n)), by simp [Go.part, run_agg h1, run_size h2], .agg _ _ ?_⟩
    have := hv.span hm
    rwa [Array.toList_extract, List.extract_eq_take_drop, Nat.add_sub_cancel_left]
  · rename_i n h1 h2
    obtain ⟨v, h3, h4⟩ := (hv.drop off).head h
    refine ⟨v, ?_, h4⟩
    have h5 : vs[off]? = some v := by
      rw [List.head?_drop] at h3
      simpa using h3
    simp [Go.part, run_agg h1, h5]
  · cases h

/-- the cells of a block that may be looked at. -/
theorem cellsAt_rel (hR : Rel ρ E H w) {b : Nat} {g : Option Nat} {cs : List AV} (h : cellsAt H b = some (g, cs)) {r : RB} (hb : E b = some r) :
    ∃ (c : Array Value) (elem : TypeId) (fr : Nat × Nat), w.heap[r.blk]? = some (.cells c elem fr) ∧ c.size = r.size ∧ (fr = (0, 0) ∨ fr = (c.size, c.size + 1)) ∧ cs.length ≤ c.size ∧ VRs ρ E cs (c.toList.take cs.length) ∧ (∀ z, g = some z → r.esz = z) := by
  unfold cellsAt at h
  split at h
  · rename_i c g' cs' hk
    simp at h
    obtain ⟨rfl, rfl⟩ := h
    obtain ⟨_, k, hk', hB⟩ := hR.blk b r hb
    rw [hk] at hk'; cases hk'
    exact hB
  · cases h
theorem add_none (b off j : Nat) : (⟨b, off, none⟩ : Addr).add j = ⟨b, off + j, none⟩ := by unfold Addr.add; split <;> simp_all
theorem run_cells {b off n : Nat} {c : Array Value} {elem : TypeId} {fr : Nat × Nat} (hw : w.heap[b]? = some (.cells c elem fr)) (hn : off + n ≤ c.size ∨ n = 0) :
    (loadCells ⟨b, off, none⟩ n).run P w = .ok ((c.toList.drop off).take n).toArray w := by
  have hl : ((c.toList.drop off).take n).length = n := by
    rw [List.length_take, List.length_drop]
    simp
    omega
  conv => lhs; rw [← hl]
  refine run_loadCells_list w _ _ fun j v hv => ?_
  rw [add_none, World.cell?, hw]
  have hj : j < n := by
    rw [← hl]
    exact (List.getElem?_eq_some_iff.1 hv).1
  rw [List.getElem?_take, if_pos hj, List.getElem?_drop] at hv
  simpa using hv
theorem loadAt_sound (hR : Rel ρ E H w) {t : TypeId} {b off : Nat} {a : AV} (h : loadAt P H t b off = some a) {r : RB} (hb : E b = some r) :
    ∃ v, (loadVar t ⟨r.blk, off, none⟩).run P w = .ok v w ∧ VR ρ E a v := by
  unfold loadAt at h
  split at h
  · cases h
  · rename_i g cs hc
    obtain ⟨c, elem, fr, hw, _, _, hl, hV, _⟩ := cellsAt_rel hR hc hb
    unfold part at h
    split at h
    · rename_i n h1 h2
      simp only [Option.map_eq_some_iff] at h
      obtain ⟨m, hm, rfl⟩ := h
      have hsp := hV.span hm
      obtain ⟨_, hle⟩ := span_spec hm
      refine ⟨.agg ((c.toList.drop off).take n).toArray, ?_, .agg _ _ ?_⟩
      · simp [loadVar, run_agg h1, run_size h2, run_cells hw (n := n) (off := off) (by omega)]
      · have e : ((c.toList.take cs.length).drop off).take n = (c.toList.drop off).take n := by
          rw [List.drop_take, List.take_take]
          congr 1
          omega
        rwa [e] at hsp
    · rename_i n h1 h2
      obtain ⟨v, h3, h4⟩ := (hV.drop off).head h
      refine ⟨v, ?_, h4⟩
      rw [List.head?_drop] at h3
      have h5 : w.cell? ⟨r.blk, off, none⟩ = some v := by
        rw [World.cell?, hw]
        rw [List.getElem?_take] at h3
        split at h3
        · simpa using h3
        · cases h3
      simp [loadVar, run_agg h1, h5]
    · cases h

/-- what an operation tells. -/
def Tells (P : Program) (ρ : Ctx) (E : Env) (s : Sem Next) (w : World) : Res → Prop
  | .val x => ∃ v, s.run P w = .ok (.value v) w ∧ VR ρ E x v
  | .new n sh => ∃ (w' : World) (obj : Obj) (v : Value) (sz z : Nat), s.run P w = .ok (.value v) w' ∧ Pushed w w' obj ∧
      ∀ (E' : Env) (b : Nat), E.le E' → E' b = some ⟨w.heap.size, sz, z⟩ → BR ρ E' ⟨w.heap.size, sz, z⟩ (n.blk b) (some obj) ∧ VR ρ E' (sh.av b) v
theorem run_v {s : Sem Value} {w w' : World} {v : Value} (h : s.run P w = .ok v w') : (do pure (Next.value (← s)) : Sem Next).run P w = .ok (.value v) w' := by simp [h]
theorem tell {s : Sem Value} {v : Value} {x : AV} (h : s.run P w = .ok v w) (hv : VR ρ E x v) : Tells P ρ E (do pure (Next.value (← s))) w (.val x) := ⟨v, run_v h, hv⟩

theorem lscal_sound {s : Sem Value} {K : AV → Bool} (h : lscal P s K = true) (w : World) : ∃ a v, K a = true ∧ s.run P w = .ok v w ∧ VR ρ E a v := by
  unfold lscal at h
  split at h
  · cases h
  · rename_i v hv
    split at h
    · cases h
    · rename_i a ha
      rw [force_eq] at h
      exact ⟨a, v, h, asPure_run hv w, ofV_sound ha⟩

theorem map_ofNat_inj : ∀ {s u : List Nat}, (∀ x ∈ s, x < 256) → (∀ x ∈ u, x < 256) → s.map UInt8.ofNat = u.map UInt8.ofNat → s = u
  | [], [], _, _, _ => rfl
  | [], _ :: _, _, _, h => by cases h
  | _ :: _, [], _, _, h => by cases h
  | a :: s, b :: u, hs, hu, h => by
    simp only [List.map_cons, List.cons.injEq] at h
    have ha := hs a (by simp)
    have hb := hu b (by simp)
    have : a = b := by
      have := congrArg UInt8.toNat h.1
      simpa [Nat.mod_eq_of_lt ha, Nat.mod_eq_of_lt hb] using this
    rw [this, map_ofNat_inj (fun x hx => hs x (by simp [hx])) (fun x hx => hu x (by simp [hx])) h.2]

theorem oneNil_sound {d : TypeDesc} {t : TypeId} (hu : P.underlying t = some d) {a b : AV} {u v : Value} (h : oneNil d a b = true) (ha : VR ρ E a u) (hb : VR ρ E b v) (x y : Operand) (w : World) :
    (Op.equal t u v).run P w = .ok false w ∧ ∀ op, op = .eql ∨ op = .neq → (eqGuard op t x y u v).run P w = .ok () w ∧ Go.binOp op t u v = (if op = .eql then (do pure (.bool (← Op.equal t u v))) else (do pure (.bool (!(← Op.equal t u v))))) := by
  suffices hs : (∀ n, (Op.equalIn (n + 1) t u v).run P w = .ok false w) ∧ ∀ op, op = .eql ∨ op = .neq → (eqGuard op t x y u v).run P w = .ok () w ∧ Go.binOp op t u v = (if op = .eql then (do pure (.bool (← Op.equal t u v))) else (do pure (.bool (!(← Op.equal t u v))))) from
    ⟨hs.1 9999, hs.2⟩
  unfold oneNil at h
  split at h <;> first | (cases h; done) | skip
  all_goals
    cases ha <;> cases hb <;> (
      refine ⟨fun n => ?_, fun op ho => ?_⟩
      · simp [Op.equalIn, run_und hu]
      · rcases ho with rfl | rfl <;> exact ⟨by simp [eqGuard], rfl⟩)
theorem nilLen_sound {d : TypeDesc} {t : TypeId} (hu : P.underlying t = some d) {a b : AV} {u v : Value} {n : Nat} (h : nilLen d a b = some n) (ha : VR ρ E a u) (hb : VR ρ E b v) (x y : Operand) (w : World) :
    ∃ r : Bool, (Op.equal t u v).run P w = .ok r w ∧ (0 < n → r = false) ∧ ∀ op, op = .eql ∨ op = .neq → (eqGuard op t x y u v).run P w = .ok () w ∧ Go.binOp op t u v = (if op = .eql then (do pure (.bool (← Op.equal t u v))) else (do pure (.bool (!(← Op.equal t u v))))) := by
  suffices hs : ∃ r : Bool, (∀ m, (Op.equalIn (m + 1) t u v).run P w = .ok r w) ∧ (0 < n → r = false) ∧ ∀ op, op = .eql ∨ op = .neq → (eqGuard op t x y u v).run P w = .ok () w ∧ Go.binOp op t u v = (if op = .eql then (do pure (.bool (← Op.equal t u v))) else (do pure (.bool (!(← Op.equal t u v))))) by
    obtain ⟨r, h1, h2, h3⟩ := hs
    exact ⟨r, h1 9999, h2, h3⟩
  obtain ⟨e0, rfl⟩ : ∃ e0, d = .slice e0 := by
    unfold nilLen at h
    split at h <;> first | exact ⟨_, rfl⟩ | (cases h)
  have hg : ∀ (op : BinOp) (a a' : Option Addr) (l c l' c' : Nat), op = .eql ∨ op = .neq → (a = none ∨ a' = none) → (eqGuard op t x y (.slice a l c) (.slice a' l' c')).run P w = .ok () w := fun op a a' l c l' c' ho hn => by
    rcases ho with rfl | rfl <;> simp [eqGuard]
  have hb' : ∀ (op : BinOp) (a a' : Option Addr) (l c l' c' : Nat), op = .eql ∨ op = .neq → Go.binOp op t (.slice a l c) (.slice a' l' c') = (if op = .eql then (do pure (.bool (← Op.equal t (.slice a l c) (.slice a' l' c')))) else (do pure (.bool (!(← Op.equal t (.slice a l c) (.slice a' l' c')))))) := fun op a a' l c l' c' ho => by
    rcases ho with rfl | rfl <;> rfl
  have hk : ∀ (a : Option Addr) (l c m : Nat), (Op.equalIn (m + 1) t (.slice none 0 0) (.slice a l c)).run P w = .ok a.isNone w := fun a l c m => by
    cases a <;> simp [Op.equalIn, run_und hu]
  have hk' : ∀ (a : Option Addr) (l c m : Nat), (Op.equalIn (m + 1) t (.slice a l c) (.slice none 0 0)).run P w = .ok a.isNone w := fun a l c m => by
    cases a <;> simp [Op.equalIn, run_und hu]
  have key : ∀ (a : Option Addr) (l c : Nat), u = .slice none 0 0 → v = .slice a l c → (0 < n → a ≠ none) → ∃ r : Bool, (∀ m, (Op.equalIn (m + 1) t u v).run P w = .ok r w) ∧ (0 < n → r = false) ∧ ∀ op, op = .eql ∨ op = .neq → (eqGuard op t x y u v).run P w = .ok () w ∧ Go.binOp op t u v = (if op = .eql then (do pure (.bool (← Op.equal t u v))) else (do pure (.bool (!(← Op.equal t u v))))) := fun a l c h1 h2 h3 => by
    subst h1; subst h2
    exact ⟨a.isNone, fun m => hk a l c m, fun h0 => by cases a with | none => exact absurd rfl (h3 h0) | some a => rfl, fun op ho => ⟨hg op _ _ _ _ _ _ ho (.inl rfl), hb' op _ _ _ _ _ _ ho⟩⟩
  have key' : ∀ (a : Option Addr) (l c : Nat), v = .slice none 0 0 → u = .slice a l c → (0 < n → a ≠ none) → ∃ r : Bool, (∀ m, (Op.equalIn (m + 1) t u v).run P w = .ok r w) ∧ (0 < n → r = false) ∧ ∀ op, op = .eql ∨ op = .neq → (eqGuard op t x y u v).run P w = .ok () w ∧ Go.binOp op t u v = (if op = .eql then (do pure (.bool (← Op.equal t u v))) else (do pure (.bool (!(← Op.equal t u v))))) := fun a l c h1 h2 h3 => by
    subst h1; subst h2
    exact ⟨a.isNone, fun m => hk' a l c m, fun h0 => by cases a with | none => exact absurd rfl (h3 h0) | some a => rfl, fun op ho => ⟨hg op _ _ _ _ _ _ ho (.inr rfl), hb' op _ _ _ _ _ _ ho⟩⟩
  have hsl : ∀ {z : AV} {q : Value}, VR ρ E z q → (∃ b, z = .gsl b n) ∨ (∃ w f, z = .data w n f) ∨ (∃ b l, z = .part b l n) → ∃ a l c, q = .slice a l c ∧ (0 < n → a ≠ none) := fun hq hz => by
    rcases hz with ⟨b, rfl⟩ | ⟨w, f, rfl⟩ | ⟨b, l, rfl⟩
    · cases hq with
      | gsl _ _ cap r _ _ _ => exact ⟨_, _, _, rfl, fun _ h => by cases h⟩
      | gsl0 _ a => exact ⟨_, _, _, rfl, fun h => absurd h (Nat.lt_irrefl 0)⟩
    · cases hq with
      | data _ _ _ _ _ _ _ _ _ _ _ _ _ _ => exact ⟨_, _, _, rfl, fun _ h => by cases h⟩
      | data0 _ _ _ _ => exact ⟨_, _, _, rfl, fun _ h => by cases h⟩
      | dataN _ _ => exact ⟨_, _, _, rfl, fun h => absurd h (Nat.lt_irrefl 0)⟩
    · cases hq with
      | part _ _ _ _ _ _ _ _ _ _ => exact ⟨_, _, _, rfl, fun _ h => by cases h⟩
  unfold nilLen at h
  split at h
  · cases h; cases ha; obtain ⟨a, l, c, h1, h2⟩ := hsl hb (.inl ⟨_, rfl⟩); exact key a l c rfl h1 h2
  · cases h; cases hb; obtain ⟨a, l, c, h1, h2⟩ := hsl ha (.inl ⟨_, rfl⟩); exact key' a l c rfl h1 h2
  · cases h; cases ha; obtain ⟨a, l, c, h1, h2⟩ := hsl hb (.inr (.inl ⟨_, _, rfl⟩)); exact key a l c rfl h1 h2
  · cases h; cases hb; obtain ⟨a, l, c, h1, h2⟩ := hsl ha (.inr (.inl ⟨_, _, rfl⟩)); exact key' a l c rfl h1 h2
  · cases h; cases ha; obtain ⟨a, l, c, h1, h2⟩ := hsl hb (.inr (.inr ⟨_, _, rfl⟩)); exact key a l c rfl h1 h2
  · cases h; cases hb; obtain ⟨a, l, c, h1, h2⟩ := hsl ha (.inr (.inr ⟨_, _, rfl⟩)); exact key' a l c rfl h1 h2
  · cases h
theorem wrap_small {k : IntKind} {r : Nat} (hk : isWide k = true) (h : r < 2147483648) : k.wrap (Int.ofNat r) = Int.ofNat r := by
  cases k <;> simp [isWide] at hk <;> simp [IntKind.wrap, IntKind.bits, IntKind.signed] <;> omega
theorem wrap_u32 {r : Nat} (h : r < 4294967296) : IntKind.u32.wrap (Int.ofNat r) = Int.ofNat r := by
  simp [IntKind.wrap, IntKind.bits, IntKind.signed]; omega
theorem two_sound {b : Bool} {K : AV → Bool} (h : two b K = true) : K (.bool b) = true := by
  unfold two at h
  split at h <;> exact h
theorem beq_ofNat (m n : Nat) : (Int.ofNat m == Int.ofNat n) = Nat.beq m n := by
  rw [Bool.eq_iff_iff, beq_iff_eq]
  exact ⟨fun h => by cases h; exact Nat.beq_refl _, fun h => by rw [Nat.eq_of_beq_eq_true h]⟩
theorem fastBin_sound {op : BinOp} {t : TypeId} {x y : Operand} {k k' : IntKind} {m n : Nat} {slow : Bool} {K : AV → Bool} (h : fastBin op k k' m n slow K = true) (w : World) :
    slow = true ∨ ∃ q r, K q = true ∧ (do eqGuard op t x y (.int k (.ofNat m)) (.int k' (.ofNat n)); Go.binOp op t (.int k (.ofNat m)) (.int k' (.ofNat n)) : Sem Value).run P w = .ok r w ∧ VR ρ E q r := by
  unfold fastBin at h
  split at h
  · exact .inl h
  · rename_i hk
    have hk : k = k' := by simpa using hk
    subst hk
    have hg : ∀ (e : BinOp), (eqGuard e t x y (.int k (.ofNat m)) (.int k (.ofNat n))).run P w = .ok () w := fun e => by cases e <;> simp [eqGuard]
    split at h
    · exact .inr ⟨_, .bool (Int.ofNat m == Int.ofNat n), two_sound h, by simp only [Sem.run_bind, hg, Result.andThen_ok]; simp [Go.binOp, Op.intCmp], by
        have : (Int.ofNat m == Int.ofNat n) = Nat.beq m n := beq_ofNat m n
        rw [this]; exact .bool _⟩
    · exact .inr ⟨_, .bool (Int.ofNat m != Int.ofNat n), two_sound h, by simp only [Sem.run_bind, hg, Result.andThen_ok]; simp [Go.binOp, Op.intCmp], by
        have : (Int.ofNat m != Int.ofNat n) = !(Nat.beq m n) := by rw [← beq_ofNat m n]; rfl
        rw [this]; exact .bool _⟩
    · exact .inr ⟨_, .bool (Int.ofNat m < Int.ofNat n), two_sound h, by simp only [Sem.run_bind, hg, Result.andThen_ok]; simp [Go.binOp, Op.intCmp], by
        have : decide (Int.ofNat m < Int.ofNat n) = Nat.blt m n := by
          rw [Bool.eq_iff_iff, decide_eq_true_iff]; simp [Nat.blt]; omega
        rw [this]; exact .bool _⟩
    · exact .inr ⟨_, .bool (Int.ofNat m ≤ Int.ofNat n), two_sound h, by simp only [Sem.run_bind, hg, Result.andThen_ok]; simp [Go.binOp, Op.intCmp], by
        have : decide (Int.ofNat m ≤ Int.ofNat n) = Nat.ble m n := by
          rw [Bool.eq_iff_iff, decide_eq_true_iff]; simp
        rw [this]; exact .bool _⟩
    · exact .inr ⟨_, .bool (Int.ofNat m > Int.ofNat n), two_sound h, by simp only [Sem.run_bind, hg, Result.andThen_ok]; simp [Go.binOp, Op.intCmp], by
        have : decide (Int.ofNat m > Int.ofNat n) = Nat.blt n m := by
          rw [Bool.eq_iff_iff, decide_eq_true_iff]; simp [Nat.blt]; omega
        rw [this]; exact .bool _⟩
    · exact .inr ⟨_, .bool (Int.ofNat m ≥ Int.ofNat n), two_sound h, by simp only [Sem.run_bind, hg, Result.andThen_ok]; simp [Go.binOp, Op.intCmp], by
        have : decide (Int.ofNat m ≥ Int.ofNat n) = Nat.ble n m := by
          rw [Bool.eq_iff_iff, decide_eq_true_iff]; simp
        rw [this]; exact .bool _⟩
    · split at h
      · rename_i hc
        rw [Bool.and_eq_true] at hc
        have hlt : m + n < 2147483648 := by have := hc.2; simp [Nat.blt] at this; omega
        rw [fNat_eq] at h
        refine .inr ⟨_, .int k (k.wrap (Int.ofNat m + Int.ofNat n)), h, by simp only [Sem.run_bind, hg, Result.andThen_ok]; simp [Go.binOp, Op.intArith], ?_⟩
        have : Int.ofNat m + Int.ofNat n = Int.ofNat (m + n) := rfl
        rw [this, wrap_small hc.1 hlt]
        exact .int _ _
      · exact .inl h
    · split at h
      · rename_i hc
        simp only [Bool.and_eq_true] at hc
        obtain ⟨hu, hm, hn⟩ := hc
        have hm : m < 4294967296 := by simp [Nat.blt] at hm; omega
        have hn : n < 4294967296 := by simp [Nat.blt] at hn; omega
        obtain rfl : k = .u32 := by cases k <;> simp [isU32] at hu; rfl
        rw [fNat_eq] at h
        refine .inr ⟨_, .int .u32 (IntKind.u32.wrap (Int.ofNat (BitVec.ofInt 32 (Int.ofNat m) &&& BitVec.ofInt 32 (Int.ofNat n)).toNat)), h, by simp only [Sem.run_bind, hg, Result.andThen_ok]; rfl, ?_⟩
        have e : (BitVec.ofInt 32 (Int.ofNat m) &&& BitVec.ofInt 32 (Int.ofNat n)).toNat = m &&& n := by
          rw [BitVec.toNat_and]
          simp only [BitVec.toNat_ofInt]
          congr 1 <;> simp <;> omega
        rw [e, wrap_u32 (Nat.lt_of_le_of_lt Nat.and_le_left hm)]
        exact .int _ _
      · exact .inl h
    · split at h
      · rename_i hc
        simp only [Bool.and_eq_true] at hc
        obtain ⟨hu, hm, hn⟩ := hc
        have hm : m < 4294967296 := by simp [Nat.blt] at hm; omega
        have hn : n < 4294967296 := by simp [Nat.blt] at hn; omega
        obtain rfl : k = .u32 := by cases k <;> simp [isU32] at hu; rfl
        rw [fNat_eq] at h
        refine .inr ⟨_, .int .u32 (IntKind.u32.wrap (Int.ofNat (BitVec.ofInt 32 (Int.ofNat m) ^^^ BitVec.ofInt 32 (Int.ofNat n)).toNat)), h, by simp only [Sem.run_bind, hg, Result.andThen_ok]; rfl, ?_⟩
        have e : (BitVec.ofInt 32 (Int.ofNat m) ^^^ BitVec.ofInt 32 (Int.ofNat n)).toNat = m ^^^ n := by
          rw [BitVec.toNat_xor]
          simp only [BitVec.toNat_ofInt]
          congr 1 <;> simp <;> omega
        rw [e, wrap_u32 (Nat.xor_lt_two_pow (n := 32) hm hn)]
        exact .int _ _
      · exact .inl h
    · exact .inl h
theorem fork_split' {c x y : Bool} (h : fork c x y = true) : (c = true ∧ x = true) ∨ (c = false ∧ y = true) := by
  rw [fork_eq] at h
  exact cond_split (p := fun z => z = true) h
theorem fork_true' {c y : Bool} (h : fork c y false = true) : c = true ∧ y = true := by
  rw [fork_eq] at h
  exact cond_true' h
theorem fk_eq (l c x y : Bool) : fk l c x y = cond c x y := by cases l <;> simp [fk, fork_eq]
theorem wrap_inR {k : IntKind} {x : Int} (h : inR k x = true) : k.wrap x = x := by
  cases k <;> simp only [inR, decide_eq_true_eq] at h <;> simp [IntKind.wrap, IntKind.bits, IntKind.signed] <;> (try split) <;> omega
theorem wr_sound {k : IntKind} {x : Int} {K : Res → Bool} (h : wr k x K = true) : ∃ q, K (.val q) = true ∧ VR ρ E q (.int k (k.wrap x)) := by
  unfold wr at h
  rcases fork_split' h with ⟨hd, h⟩ | ⟨_, h⟩
  · exact ⟨_, h, by rw [wrap_inR hd]; exact .sint _ _⟩
  · exact ⟨_, h, .sint _ _⟩
theorem cvt_sound {k : IntKind} {x : Int} {K : Res → Bool} (h : cvt k x K = true) : ∃ q, K (.val q) = true ∧ VR ρ E q (.int k (k.wrap x)) := by
  unfold cvt at h
  split at h
  · exact ⟨_, h, by rw [show IntKind.u8.wrap x = x % 256 by simp [IntKind.wrap, IntKind.bits, IntKind.signed]]; exact .sint _ _⟩
  · exact wr_sound h
theorem or_nat {A B : Nat} (h : A % 256 = 0) (hB : B < 256) : A ||| B = A + B := by
  have := Nat.two_pow_add_eq_or_of_lt (i := 8) (b := B) hB (A / 256)
  have e : 2 ^ 8 * (A / 256) = A := by omega
  rw [e] at this
  exact this.symm
theorem or_wrap {k : IntKind} {a b m : Int} (hm : orB k = some m) (h : 0 ≤ a ∧ a % 256 = 0 ∧ a ≤ m ∧ 0 ≤ b ∧ b < 256) : k.wrap (BitVec.ofInt k.bits a ||| BitVec.ofInt k.bits b).toNat = a + b := by
  obtain ⟨h1, h2, h3, h4, h5⟩ := h
  obtain ⟨A, rfl⟩ := Int.eq_ofNat_of_zero_le h1
  obtain ⟨B, rfl⟩ := Int.eq_ofNat_of_zero_le h4
  have hA : A % 256 = 0 := by omega
  have hB : B < 256 := by omega
  cases k <;> simp [orB] at hm
  · subst hm
    rw [BitVec.ofInt_natCast, BitVec.ofInt_natCast, BitVec.toNat_or, BitVec.toNat_ofNat, BitVec.toNat_ofNat, show IntKind.i64.bits = 64 from rfl, Nat.mod_eq_of_lt (by omega), Nat.mod_eq_of_lt (by omega), or_nat hA hB]
    simp [IntKind.wrap, IntKind.bits, IntKind.signed]
    omega
  · subst hm
    rw [BitVec.ofInt_natCast, BitVec.ofInt_natCast, BitVec.toNat_or, BitVec.toNat_ofNat, BitVec.toNat_ofNat, show IntKind.u64.bits = 64 from rfl, Nat.mod_eq_of_lt (by omega), Nat.mod_eq_of_lt (by omega), or_nat hA hB]
    simp [IntKind.wrap, IntKind.bits, IntKind.signed]
    omega
theorem orK_sound {k : IntKind} {a b : Int} {K : Res → Bool} (h : orK k a b K = true) : ∃ q, K (.val q) = true ∧ VR ρ E q (.int k (k.wrap (BitVec.ofInt k.bits a ||| BitVec.ofInt k.bits b).toNat)) := by
  unfold orK at h
  split at h
  · rename_i m hm
    rcases fork_split' h with ⟨hd, h⟩ | ⟨_, h⟩
    · exact ⟨_, h, by rw [or_wrap hm (of_decide_eq_true hd)]; exact .sint _ _⟩
    · exact ⟨_, h, .sint _ _⟩
  · exact ⟨_, h, .sint _ _⟩
theorem shr_ed (a : Int) (n : Nat) : a.fdiv (2 ^ n) = a / 2 ^ n := Int.fdiv_eq_ediv_of_nonneg _ (Int.pow_nonneg (by decide))
theorem symArith_sound {op : BinOp} {t : TypeId} {x y : Operand} {k k' : IntKind} {a b : Int} {lit : Bool} {K : Res → Bool} (h : symArith op k k' a b lit K = true) (hop : op ≠ .shl ∧ op ≠ .shr) (w : World) :
    ∃ q r, K (.val q) = true ∧ (do eqGuard op t x y (.int k a) (.int k' b); Go.binOp op t (.int k a) (.int k' b) : Sem Value).run P w = .ok r w ∧ VR ρ E q r := by
  have hg : (eqGuard op t x y (.int k a) (.int k' b)).run P w = .ok () w := by cases op <;> simp [eqGuard]
  unfold symArith at h
  split at h
  · cases h
  rename_i hk
  have hk : k = k' := by simpa using hk
  subst hk
  have hne : ¬ (k ≠ k) := fun h => h rfl
  split at h
  · obtain ⟨q, h, hq⟩ := wr_sound (ρ := ρ) (E := E) h
    exact ⟨q, _, h, by simp only [Sem.run_bind, hg, Result.andThen_ok]; simp [Go.binOp, Op.intArith], hq⟩
  · obtain ⟨q, h, hq⟩ := wr_sound (ρ := ρ) (E := E) h
    exact ⟨q, _, h, by simp only [Sem.run_bind, hg, Result.andThen_ok]; simp [Go.binOp, Op.intArith], hq⟩
  · obtain ⟨q, h, hq⟩ := wr_sound (ρ := ρ) (E := E) h
    exact ⟨q, _, h, by simp only [Sem.run_bind, hg, Result.andThen_ok]; simp [Go.binOp, Op.intArith], hq⟩
  · rw [fk_eq] at h
    rcases cond_split (p := fun z => z = true) h with ⟨_, h⟩ | ⟨hb, h⟩
    · cases h
    · have hb : ¬ b = 0 := by simpa using hb
      obtain ⟨q, h, hq⟩ := wr_sound (ρ := ρ) (E := E) h
      exact ⟨q, _, h, by simp only [Sem.run_bind, hg, Result.andThen_ok]; simp [Go.binOp, Op.intDiv, hb], hq⟩
  · rw [fk_eq] at h
    rcases cond_split (p := fun z => z = true) h with ⟨_, h⟩ | ⟨hb, h⟩
    · cases h
    · have hb : ¬ b = 0 := by simpa using hb
      exact ⟨_, _, h, by simp only [Sem.run_bind, hg, Result.andThen_ok]; simp [Go.binOp, Op.intDiv, hb], .sint _ _⟩
  · exact ⟨_, _, h, by simp only [Sem.run_bind, hg, Result.andThen_ok]; simp [Go.binOp, Op.intBits], .sint _ _⟩
  · obtain ⟨q, h, hq⟩ := orK_sound (ρ := ρ) (E := E) h
    exact ⟨q, _, h, by simp only [Sem.run_bind, hg, Result.andThen_ok]; simp [Go.binOp, Op.intBits], hq⟩
  · exact ⟨_, _, h, by simp only [Sem.run_bind, hg, Result.andThen_ok]; simp [Go.binOp, Op.intBits], .sint _ _⟩
  all_goals first
    | (rcases fork_split' h with ⟨hd, h⟩ | ⟨hd, h⟩ <;> refine ⟨_, _, h, ?_, .bool _⟩ <;> simp only [Sem.run_bind, hg, Result.andThen_ok] <;> simp only [decide_eq_true_eq, decide_eq_false_iff_not] at hd <;> simp [Go.binOp, Op.intCmp, hd]; done)
    | cases h
    | skip
theorem symBin_sound {op : BinOp} {t : TypeId} {x y : Operand} {k k' : IntKind} {a b : Int} {lit : Bool} {K : Res → Bool} (h : symBin op k k' a b lit K = true) (w : World) :
    ∃ q r, K (.val q) = true ∧ (do eqGuard op t x y (.int k a) (.int k' b); Go.binOp op t (.int k a) (.int k' b) : Sem Value).run P w = .ok r w ∧ VR ρ E q r := by
  have hg : (eqGuard op t x y (.int k a) (.int k' b)).run P w = .ok () w := by cases op <;> simp [eqGuard]
  unfold symBin at h
  split at h
  · rw [fk_eq] at h
    rcases cond_split (p := fun z => z = true) h with ⟨_, h⟩ | ⟨hb, h⟩
    · cases h
    · have hb : ¬ b < 0 := by simpa using hb
      obtain ⟨q, h, hq⟩ := wr_sound (ρ := ρ) (E := E) h
      exact ⟨q, _, h, by simp only [Sem.run_bind, hg, Result.andThen_ok]; simp only [Go.binOp, Op.shift, if_neg hb]; rfl, hq⟩
  · rw [fk_eq] at h
    rcases cond_split (p := fun z => z = true) h with ⟨_, h⟩ | ⟨hb, h⟩
    · cases h
    · have hb : ¬ b < 0 := by simpa using hb
      exact ⟨_, _, h, by simp only [Sem.run_bind, hg, Result.andThen_ok]; simp only [Go.binOp, Op.shift, if_neg hb]; rfl, by rw [shr_ed]; exact .sint _ _⟩
  · rename_i n1 n2
    exact symArith_sound h ⟨n1, n2⟩ w
theorem numOf_sound {a : AV} {k : IntKind} {n : Int} (h : numOf a = some (k, n)) {v : Value} (hv : VR ρ E a v) : v = .int k n := by
  cases a <;> simp [numOf] at h
  all_goals
    obtain ⟨rfl, rfl⟩ := h
    cases hv
    rfl
theorem conjP_nil : conjP [] := trivial
theorem conjP_cons {x : Int × Int} {l : List (Int × Int)} : conjP (x :: l) ↔ x.1 = x.2 ∧ conjP l := by
  cases l with
  | nil => exact ⟨fun h => ⟨h, trivial⟩, fun h => h.1⟩
  | cons y l => exact Iff.rfl
theorem conjP_app {l r : List (Int × Int)} : conjP (l ++ r) ↔ conjP l ∧ conjP r := by
  induction l with
  | nil => exact ⟨fun h => ⟨trivial, h⟩, fun h => h.2⟩
  | cons x l ih => rw [List.cons_append, conjP_cons, conjP_cons, ih, and_assoc]
def EqOK (P : Program) (ρ : Ctx) (E : Env) (dd : Nat) (g : TypeId → AV → AV → Option (List (Int × Int))) : Prop :=
  ∀ (t : TypeId) (a b : AV) (l : List (Int × Int)) (u v : Value) (w : World), g t a b = some l → VR ρ E a u → VR ρ E b v → ∃ r : Bool, (Op.equalIn dd t u v).run P w = .ok r w ∧ (r = true ↔ conjP l)
theorem eqFlds_sound {dd : Nat} {g : TypeId → AV → AV → Option (List (Int × Int))} (IH : EqOK P ρ E dd g) {xs ys : List AV} {us vs : Array Value} (hx : VRs ρ E xs us.toList) (hy : VRs ρ E ys vs.toList) (w : World) : ∀ (fs : List Field) (l : List (Int × Int)), eqFlds g P xs ys fs = some l →
    ∃ r : Bool, (Op.eqFields dd us vs fs).run P w = .ok r w ∧ (r = true ↔ conjP l)
  | [], l, h => by
    simp [eqFlds] at h; subst h
    exact ⟨true, by simp [Op.eqFields], by simp [conjP_nil]⟩
  | f :: fs, l, h => by
    unfold eqFlds at h
    rcases cond_split (p := fun z => z = some l) h with ⟨hn, h⟩ | ⟨_, h⟩
    · split at h
      · rename_i a b ha hb
        split at h
        · rename_i l1 l2 h1 h2
          simp at h; subst h
          obtain ⟨u, p1, q1⟩ := part_sound (P := P) ha hx w
          obtain ⟨v, p2, q2⟩ := part_sound (P := P) hb hy w
          obtain ⟨r, p3, q3⟩ := IH _ _ _ _ u v w h1 q1 q2
          obtain ⟨r', p4, q4⟩ := eqFlds_sound IH hx hy w fs l2 h2
          have hne : f.name ≠ "_" := by simpa using hn
          simp only [Op.eqFields, hne, ne_eq, not_false_eq_true, if_true, Sem.run_bind, p1, p2, p3, Result.andThen_ok, conjP_app]
          cases r
          · exact ⟨false, by simp, by simp; intro e; exact absurd (q3.2 e) (by simp)⟩
          · refine ⟨r', by simpa using p4, ?_⟩
            rw [q4]
            simp [q3.1 rfl]
        · cases h
      · cases h
    · cases h
theorem eqItms_sound {dd : Nat} {g : TypeId → AV → AV → Option (List (Int × Int))} (IH : EqOK P ρ E dd g) {e : TypeId} {z : Nat} {xs ys : List AV} {us vs : Array Value} (hx : VRs ρ E xs us.toList) (hy : VRs ρ E ys vs.toList) (w : World) : ∀ (is : List Nat) (l : List (Int × Int)), eqItms g P e z xs ys is = some l →
    ∃ r : Bool, (Op.eqItems dd e z us vs is).run P w = .ok r w ∧ (r = true ↔ conjP l)
  | [], l, h => by
    simp [eqItms] at h; subst h
    exact ⟨true, by simp [Op.eqItems], by simp [conjP_nil]⟩
  | i :: is, l, h => by
    unfold eqItms at h
    split at h
    · rename_i a b ha hb
      split at h
      · rename_i l1 l2 h1 h2
        simp at h; subst h
        obtain ⟨u, p1, q1⟩ := part_sound (P := P) ha hx w
        obtain ⟨v, p2, q2⟩ := part_sound (P := P) hb hy w
        obtain ⟨r, p3, q3⟩ := IH _ _ _ _ u v w h1 q1 q2
        obtain ⟨r', p4, q4⟩ := eqItms_sound IH hx hy w is l2 h2
        simp only [Op.eqItems, Sem.run_bind, p1, p2, p3, Result.andThen_ok, conjP_app]
        cases r
        · exact ⟨false, by simp, by simp; intro e; exact absurd (q3.2 e) (by simp)⟩
        · refine ⟨r', by simpa using p4, ?_⟩
          rw [q4]
          simp [q3.1 rfl]
      · cases h
    · cases h
theorem eqPairs_sound (d : Nat) : ∀ m, EqOK P ρ E (d + m) (eqPairs P m)
  | 0 => fun t a b l u v w h _ _ => by simp [eqPairs] at h
  | m + 1 => fun t a b l u v w h ha hb => by
    have IH := eqPairs_sound d m
    unfold eqPairs at h
    split at h
    · rename_i hu
      split at h
      · simp at h; subst h
        rename_i x y
        cases ha; cases hb
        refine ⟨x == y, run_equalIn_bool w (d + m) t x y hu, ?_⟩
        cases x <;> cases y <;> simp [conjP]
      · cases h
    · rename_i k hu
      split at h
      · rename_i k1 x k2 y h1 h2
        rcases cond_split (p := fun z => z = some l) h with ⟨hk, h⟩ | ⟨_, h⟩
        · have hk : k1 = k2 := by simpa using hk
          subst hk
          simp at h; subst h
          rw [numOf_sound h1 ha, numOf_sound h2 hb]
          refine ⟨x == y, run_equalIn_int w (d + m) t k1 k x y hu, ?_⟩
          simp [conjP]
        · cases h
      · cases h
    · rename_i fs hu
      split at h
      · rename_i xs ys
        rcases cond_split (p := fun z => z = some l) h with ⟨_, h⟩ | ⟨hs, h⟩
        · cases h
        · cases ha with
          | agg _ us hx =>
            cases hb with
            | agg _ vs hy =>
              have hf : P.fieldsOf t = fs := by simp [Program.fieldsOf, hu]
              obtain ⟨r, h1, h2⟩ := eqFlds_sound (P := P) IH hx hy w fs.toList l h
              refine ⟨r, ?_, h2⟩
              rw [show d + (m + 1) = (d + m) + 1 from rfl, run_equalIn_struct w (d + m) t us vs (by rw [hf]; exact hu) hs, hf]
              exact h1
      · cases h
    · rename_i n e hu
      split at h
      · rename_i xs ys z hz
        cases ha with
        | agg _ us hx =>
          cases hb with
          | agg _ vs hy =>
            obtain ⟨r, h1, h2⟩ := eqItms_sound (P := P) IH hx hy w (List.range n) l h
            refine ⟨r, ?_, h2⟩
            unfold size at hz
            simp only [Option.map_eq_some_iff] at hz
            obtain ⟨i, hi, rfl⟩ := hz
            rw [show d + (m + 1) = (d + m) + 1 from rfl, run_equalIn_array w (d + m) us vs hu hi]
            have : P.cellsOf e = i.size := by simp [Program.cellsOf, hi]
            rw [this]
            exact h1
      · cases h
    · cases h
theorem eqAgg_sound {op : BinOp} {t : TypeId} {x y : Operand} {a b : AV} {u v : Value} {K : Res → Bool} (h : eqAgg P op t a b K = true) (ha : VR ρ E a u) (hb : VR ρ E b v) (w : World) :
    ∃ q r, K (.val q) = true ∧ (do eqGuard op t x y u v; Go.binOp op t u v : Sem Value).run P w = .ok r w ∧ VR ρ E q r := by
  unfold eqAgg at h
  split at h
  · rename_i xs ys
    split at h
    · rename_i l hl
      rcases cond_split (p := fun z => z = true) h with ⟨_, h⟩ | ⟨hg, h⟩
      · cases h
      · obtain ⟨r, h1, h2⟩ := eqPairs_sound (P := P) (ρ := ρ) (E := E) 9992 8 t _ _ l u v w hl ha hb
        cases ha with
        | agg _ us hx =>
          cases hb with
          | agg _ vs hy =>
            have hgd : ∀ e : BinOp, (eqGuard e t x y (.agg us.toList.toArray) (.agg vs.toList.toArray)).run P w = .ok () w := fun e => run_eqGuard_agg w e t x y _ _ hg
            simp only [Array.toArray_toList] at hgd
            split at h
            · rcases fork_split' h with ⟨hd, h⟩ | ⟨hd, h⟩
              · have hr : r = true := h2.2 (@of_decide_eq_true _ (Classical.propDecidable _) hd)
                exact ⟨_, _, h, by simp only [Sem.run_bind, hgd, Result.andThen_ok, run_eql_struct, h1, hr], .bool true⟩
              · have hr : r = false := by
                  cases r
                  · rfl
                  · exact absurd (h2.1 rfl) (@of_decide_eq_false _ (Classical.propDecidable _) hd)
                exact ⟨_, _, h, by simp only [Sem.run_bind, hgd, Result.andThen_ok, run_eql_struct, h1, hr], .bool false⟩
            · rcases fork_split' h with ⟨hd, h⟩ | ⟨hd, h⟩
              · have hr : r = true := h2.2 (@of_decide_eq_true _ (Classical.propDecidable _) hd)
                exact ⟨_, _, h, by simp only [Sem.run_bind, hgd, Result.andThen_ok, run_neq_struct, h1, hr]; rfl, .bool false⟩
              · have hr : r = false := by
                  cases r
                  · rfl
                  · exact absurd (h2.1 rfl) (@of_decide_eq_false _ (Classical.propDecidable _) hd)
                exact ⟨_, _, h, by simp only [Sem.run_bind, hgd, Result.andThen_ok, run_neq_struct, h1, hr]; rfl, .bool true⟩
            · cases h
    · cases h
  · cases h
theorem aBin_sound {op : BinOp} {t : TypeId} {x y : Operand} {a b : AV} {u v : Value} {K : Res → Bool} (h : aBin P op t x y a b K = true) (ha : VR ρ E a u) (hb : VR ρ E b v) (w : World) :
    ∃ q r, K (.val q) = true ∧ (do eqGuard op t x y u v; Go.binOp op t u v : Sem Value).run P w = .ok r w ∧ VR ρ E q r := by
  unfold aBin at h
  split at h
  · rename_i s s'
    cases ha with
    | str _ hs =>
      cases hb with
      | str _ hs' =>
        have hg : ∀ (e : BinOp), (eqGuard e t x y (.string ⟨⟨s.map UInt8.ofNat⟩⟩) (.string ⟨⟨s'.map UInt8.ofNat⟩⟩)).run P w = .ok () w := fun e => by cases e <;> simp [eqGuard]
        have key : (s.map UInt8.ofNat == s'.map UInt8.ofNat) = decide (s = s') := by
          by_cases e : s = s'
          · subst e; simp
          · have : ¬ s.map UInt8.ofNat = s'.map UInt8.ofNat := fun h => e (map_ofNat_inj hs hs' h)
            simp [e, this]
        have hq : (Go.binOp .eql t (.string ⟨⟨s.map UInt8.ofNat⟩⟩) (.string ⟨⟨s'.map UInt8.ofNat⟩⟩)).run P w = .ok (.bool (decide (s = s'))) w := by
          simp only [Go.binOp, Op.stringOp, ByteArray.toList_eq, Sem.run_pure, key]
        have hn : (Go.binOp .neq t (.string ⟨⟨s.map UInt8.ofNat⟩⟩) (.string ⟨⟨s'.map UInt8.ofNat⟩⟩)).run P w = .ok (.bool (!decide (s = s'))) w := by
          simp only [Go.binOp, Op.stringOp, ByteArray.toList_eq, Sem.run_pure, key]
        split at h
        · rcases fork_split' h with ⟨hd, h⟩ | ⟨hd, h⟩
          · exact ⟨_, _, h, by simp only [Sem.run_bind, hg, Result.andThen_ok, hq, hd], .bool true⟩
          · exact ⟨_, _, h, by simp only [Sem.run_bind, hg, Result.andThen_ok, hq, hd], .bool false⟩
        · rcases fork_split' h with ⟨hd, h⟩ | ⟨hd, h⟩
          · exact ⟨_, _, h, by simp only [Sem.run_bind, hg, Result.andThen_ok, hn, hd]; rfl, .bool false⟩
          · exact ⟨_, _, h, by simp only [Sem.run_bind, hg, Result.andThen_ok, hn, hd]; rfl, .bool true⟩
        · cases h
  · rename_i k m k' n
    cases ha
    cases hb
    exact symBin_sound h w
  · rename_i k m k' n
    cases ha
    cases hb
    exact symBin_sound h w
  · rename_i k m k' n
    cases ha
    cases hb
    exact symBin_sound h w
  · rename_i j k n
    obtain ⟨hjk, h'⟩ := cond_true' h
    clear h
    have h := h'
    clear h'
    have hjk : j = k := by simpa using hjk
    subst hjk
    cases ha with
    | unkI _ m =>
      cases hb
      have hg : ∀ (e : BinOp), (eqGuard e t x y (.int j m) (.int j n)).run P w = .ok () w := fun e => by cases e <;> simp [eqGuard]
      split at h
      · exact ⟨_, .bool (m == n), h, by simp only [Sem.run_bind, hg, Result.andThen_ok]; simp [Go.binOp, Op.intCmp], .unkB _⟩
      · exact ⟨_, .bool (m != n), h, by simp only [Sem.run_bind, hg, Result.andThen_ok]; simp [Go.binOp, Op.intCmp], .unkB _⟩
      · exact ⟨_, .bool (m < n), h, by simp only [Sem.run_bind, hg, Result.andThen_ok]; simp [Go.binOp, Op.intCmp], .unkB _⟩
      · exact ⟨_, .bool (m ≤ n), h, by simp only [Sem.run_bind, hg, Result.andThen_ok]; simp [Go.binOp, Op.intCmp], .unkB _⟩
      · exact ⟨_, .bool (m > n), h, by simp only [Sem.run_bind, hg, Result.andThen_ok]; simp [Go.binOp, Op.intCmp], .unkB _⟩
      · exact ⟨_, .bool (m ≥ n), h, by simp only [Sem.run_bind, hg, Result.andThen_ok]; simp [Go.binOp, Op.intCmp], .unkB _⟩
      · exact ⟨_, .int j (j.wrap (m + n)), h, by simp only [Sem.run_bind, hg, Result.andThen_ok]; first | rfl | simp [Go.binOp, Op.intArith], .unkI _ _⟩
      · exact ⟨_, .int j (j.wrap (m - n)), h, by simp only [Sem.run_bind, hg, Result.andThen_ok]; first | rfl | simp [Go.binOp, Op.intArith], .unkI _ _⟩
      · cases h
  · rename_i neg k n
    obtain ⟨hjk, h'⟩ := cond_true' h
    clear h
    have h := h'
    clear h'
    have hjk : k = .i64 := by simpa using hjk
    subst hjk
    cases ha with
    | half m =>
      cases hb
      have hg : ∀ (e : BinOp), (eqGuard e t x y (.int .i64 m) (.int .i64 n)).run P w = .ok () w := fun e => by cases e <;> simp [eqGuard]
      split at h
      · exact ⟨_, .bool (m == n), h, by simp only [Sem.run_bind, hg, Result.andThen_ok]; simp [Go.binOp, Op.intCmp], .unkB _⟩
      · exact ⟨_, .bool (m != n), h, by simp only [Sem.run_bind, hg, Result.andThen_ok]; simp [Go.binOp, Op.intCmp], .unkB _⟩
      · split at h
        · rename_i hn
          have hn : n = 0 := by simpa using hn
          subst hn
          exact ⟨_, .bool (m < 0), h, by simp only [Sem.run_bind, hg, Result.andThen_ok]; simp [Go.binOp, Op.intCmp], .bool _⟩
        · exact ⟨_, .bool (m < n), h, by simp only [Sem.run_bind, hg, Result.andThen_ok]; simp [Go.binOp, Op.intCmp], .unkB _⟩
      · exact ⟨_, .bool (m ≤ n), h, by simp only [Sem.run_bind, hg, Result.andThen_ok]; simp [Go.binOp, Op.intCmp], .unkB _⟩
      · exact ⟨_, .bool (m > n), h, by simp only [Sem.run_bind, hg, Result.andThen_ok]; simp [Go.binOp, Op.intCmp], .unkB _⟩
      · split at h
        · rename_i hn
          have hn : n = 0 := by simpa using hn
          subst hn
          have hd : (!decide (m < 0)) = decide (m ≥ 0) := by by_cases h0 : m < 0 <;> simp [h0] <;> omega
          rw [hd] at h
          exact ⟨_, .bool (m ≥ 0), h, by simp only [Sem.run_bind, hg, Result.andThen_ok]; simp [Go.binOp, Op.intCmp], .bool _⟩
        · exact ⟨_, .bool (m ≥ n), h, by simp only [Sem.run_bind, hg, Result.andThen_ok]; simp [Go.binOp, Op.intCmp], .unkB _⟩
      · cases h
  · rename_i k m k' n
    cases ha
    cases hb
    rcases fastBin_sound (P := P) (ρ := ρ) (E := E) (t := t) (x := x) (y := y) h w with hs | ⟨q, r, hK, hr, hv⟩
    · obtain ⟨q, r, hK, hr, hv⟩ := lscal_sound (ρ := ρ) (E := E) hs w
      exact ⟨q, r, hK, hr, hv⟩
    · exact ⟨q, r, hK, hr, hv⟩
  · split at h
    · rename_i v' w' h1 h2
      rw [toV_sound h1 ha, toV_sound h2 hb]
      obtain ⟨q, r, hK, hr, hv⟩ := lscal_sound h w
      exact ⟨q, r, hK, hr, hv⟩
    · split at h
      · cases h
      · rename_i d hu
        rcases cond_split (p := fun z => z = true) h with ⟨h1, h⟩ | ⟨_, h⟩
        case inr =>
          split at h
          · rename_i n hn
            obtain ⟨r, he, hr, hz⟩ := nilLen_sound hu hn ha hb x y w
            split at h
            · obtain ⟨hg, hq⟩ := hz .eql (.inl rfl)
              rcases fork_split' h with ⟨h0, h⟩ | ⟨_, h⟩
              · have := hr (of_decide_eq_true h0)
                subst this
                refine ⟨_, .bool false, h, ?_, .bool false⟩
                simp [Sem.run_bind, hg, hq, he]
              · refine ⟨_, .bool r, h, ?_, .unkB r⟩
                simp [Sem.run_bind, hg, hq, he]
            · obtain ⟨hg, hq⟩ := hz .neq (.inr rfl)
              rcases fork_split' h with ⟨h0, h⟩ | ⟨_, h⟩
              · have := hr (of_decide_eq_true h0)
                subst this
                refine ⟨_, .bool true, h, ?_, .bool true⟩
                simp [Sem.run_bind, hg, hq, he]
              · refine ⟨_, .bool (!r), h, ?_, .unkB _⟩
                simp [Sem.run_bind, hg, hq, he]
            · cases h
          · exact eqAgg_sound h ha hb w
        obtain ⟨he, hz⟩ := oneNil_sound hu h1 ha hb x y w
        split at h
        · obtain ⟨hg, hq⟩ := hz .eql (.inl rfl)
          refine ⟨_, .bool false, h, ?_, .bool false⟩
          simp [Sem.run_bind, hg, hq, he]
        · obtain ⟨hg, hq⟩ := hz .neq (.inr rfl)
          refine ⟨_, .bool true, h, ?_, .bool true⟩
          simp [Sem.run_bind, hg, hq, he]
        · cases h
end Go.Proofs.Ytkdmlpmjfnjnmaa.Sv
