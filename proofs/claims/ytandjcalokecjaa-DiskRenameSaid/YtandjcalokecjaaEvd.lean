import Derived.Test.YtandjcalokecjaaEvc
/-! operations that leave memory as it is: the small words. -/
namespace Go.Proofs.Ytandjcalokecjaa.Ev
open Go Go.RowKit

variable {P : Program} {ρ : Nat → Value} {E : Env} {H : AH} {w : World}

theorem aop_sound {tmps : List AV} {a : Act} {x : Operand} {b : AV} (h : aop tmps x = some b) (hT : ∀ t, x = .tmp t → VR ρ E (aget tmps t) (a.tmps.getD t undef)) : VR ρ E b (a.eval x) := by
  cases x with
  | tmp t => simp [aop] at h; subst h; exact hT t rfl
  | const v => exact ofV_sound h
  | global g => cases h
  | func f => simp [aop] at h; subst h; exact .fn f [] [] #[] #[] .nil .nil
theorem aops_sound {tmps : List AV} {a : Act} : ∀ {l : List Operand} {m : List AV}, aops tmps l = some m → (∀ t, .tmp t ∈ l → VR ρ E (aget tmps t) (a.tmps.getD t undef)) → VRs ρ E m (l.map a.eval)
  | [], m, h, _ => by simp [aops] at h; subst h; exact .nil
  | x :: r, m, h, hT => by
    unfold aops at h
    split at h
    · rename_i b l h1 h2
      simp at h; subst h
      exact .cons _ _ _ _ (aop_sound h1 fun t e => hT t (by simp [e])) (aops_sound h2 fun t e => hT t (by simp [e]))
    · cases h

theorem run_und {t : TypeId} {d : TypeDesc} (h : P.underlying t = some d) (w : World) : (underlying t).run P w = .ok d w := run_underlying h w
theorem run_info {t : TypeId} {i : TypeInfo} (h : P.info? t = some i) (w : World) : (typeInfo t).run P w = .ok i w := by
  simp [typeInfo, h, program, Sem.run]
theorem run_size {t : TypeId} {n : Nat} (h : size P t = some n) (w : World) : (sizeOf t).run P w = .ok n w := by
  unfold size at h
  cases hi : P.info? t with
  | none => simp [hi] at h
  | some i => simp [hi] at h; simp [sizeOf, run_info hi, h]
theorem run_agg {t : TypeId} {b : Bool} (h : isAgg P t = some b) (w : World) : (Go.isAgg t).run P w = .ok b w := by
  unfold isAgg at h
  cases hu : P.underlying t with
  | none => simp [hu] at h
  | some d =>
    simp only [hu] at h
    unfold Go.isAgg
    rw [Sem.run_bind, run_und hu]
    cases d <;> simp_all
theorem run_zero {t : TypeId} {a : AV} (h : zero P t = some a) (w : World) : ∃ v, (zeroValue t).run P w = .ok v w ∧ VR ρ E a v := by
  unfold zero at h
  cases hi : P.info? t with
  | none => simp [hi] at h
  | some i =>
    simp only [hi] at h
    cases hz : i.zero with
    | none => simp [hz] at h
    | some v =>
      simp only [hz] at h
      exact ⟨v, by simp [zeroValue, run_info hi, hz], ofV_sound h⟩

theorem firsts_spec : ∀ {n : Nat} {l m : List AV}, firsts n l = some m → m = l.take n ∧ n ≤ l.length
  | 0, l, m, h => by simp [firsts] at h; subst h; simp
  | n + 1, [], m, h => by simp [firsts] at h
  | n + 1, a :: r, m, h => by
    simp only [firsts] at h
    split at h
    · rename_i l hl
      simp at h; subst h
      obtain ⟨rfl, hn⟩ := firsts_spec hl
      exact ⟨by simp, by simp; omega⟩
    · cases h
theorem span_spec {l m : List AV} {off n : Nat} (h : span l off n = some m) : m = (l.drop off).take n ∧ (off + n ≤ l.length ∨ n = 0) := by
  obtain ⟨h1, h2⟩ := firsts_spec h
  refine ⟨h1, ?_⟩
  simp at h2
  omega
theorem VRs.span {l m : List AV} {vs : List Value} {off n : Nat} (h : VRs ρ E l vs) (hs : span l off n = some m) : VRs ρ E m ((vs.drop off).take n) := by
  obtain ⟨rfl, _⟩ := span_spec hs
  exact (h.drop off).take n

theorem part_sound {t : TypeId} {cs : List AV} {off : Nat} {a : AV} (h : part P t cs off = some a) {vs : Array Value} (hv : VRs ρ E cs vs.toList) (w : World) : ∃ v, (Go.part t vs off).run P w = .ok v w ∧ VR ρ E a v := by
  unfold part at h
  split at h
  · rename_i n h1 h2
    simp only [Option.map_eq_some_iff] at h
    obtain ⟨m, hm, rfl⟩ := h
    refine ⟨.agg (vs.extract off (off + n)), by simp [Go.part, run_agg h1, run_size h2], .agg _ _ ?_⟩
    have := hv.span hm
    rwa [Array.toList_extract, List.extract_eq_take_drop, Nat.add_sub_cancel_left]
  · rename_i n h1 h2
    obtain ⟨v, h3, h4⟩ := (hv.drop off).head h
    refine ⟨v, ?_, h4⟩
    have h5 : vs[off]? = some v := by
      rw [List.head?_drop] at h3
      simpa using h3
    simp [Go.part, run_agg h1, h5]
  · cases h

/-- the cells of a block that may be looked at. -/
theorem cellsAt_rel (hR : Rel ρ E H w) {b : Nat} {g : Option Nat} {cs : List AV} (h : cellsAt H b = some (g, cs)) {r : RB} (hb : E b = some r) :
    ∃ (c : Array Value) (elem : TypeId) (fr : Nat × Nat), w.heap[r.blk]? = some (.cells c elem fr) ∧ c.size = r.size ∧ (fr = (0, 0) ∨ fr = (c.size, c.size + 1)) ∧ cs.length ≤ c.size ∧ VRs ρ E cs (c.toList.take cs.length) ∧ (∀ z, g = some z → r.esz = z) := by
  unfold cellsAt at h
  split at h
  · rename_i c g' cs' hk
    simp at h
    obtain ⟨rfl, rfl⟩ := h
    obtain ⟨_, k, hk', hB⟩ := hR.blk b r hb
    rw [hk] at hk'; cases hk'
    exact hB
  · cases h
theorem add_none (b off j : Nat) : (⟨b, off, none⟩ : Addr).add j = ⟨b, off + j, none⟩ := by unfold Addr.add; split <;> simp_all
theorem run_cells {b off n : Nat} {c : Array Value} {elem : TypeId} {fr : Nat × Nat} (hw : w.heap[b]? = some (.cells c elem fr)) (hn : off + n ≤ c.size ∨ n = 0) :
    (loadCells ⟨b, off, none⟩ n).run P w = .ok ((c.toList.drop off).take n).toArray w := by
  have hl : ((c.toList.drop off).take n).length = n := by
    rw [List.length_take, List.length_drop]
    simp
    omega
  conv => lhs; rw [← hl]
  refine run_loadCells_list w _ _ fun j v hv => ?_
  rw [add_none, World.cell?, hw]
  have hj : j < n := by
    rw [← hl]
    exact (List.getElem?_eq_some_iff.1 hv).1
  rw [List.getElem?_take, if_pos hj, List.getElem?_drop] at hv
  simpa using hv
theorem loadAt_sound (hR : Rel ρ E H w) {t : TypeId} {b off : Nat} {a : AV} (h : loadAt P H t b off = some a) {r : RB} (hb : E b = some r) :
    ∃ v, (loadVar t ⟨r.blk, off, none⟩).run P w = .ok v w ∧ VR ρ E a v := by
  unfold loadAt at h
  split at h
  · cases h
  · rename_i g cs hc
    obtain ⟨c, elem, fr, hw, _, _, hl, hV, _⟩ := cellsAt_rel hR hc hb
    unfold part at h
    split at h
    · rename_i n h1 h2
      simp only [Option.map_eq_some_iff] at h
      obtain ⟨m, hm, rfl⟩ := h
      have hsp := hV.span hm
      obtain ⟨_, hle⟩ := span_spec hm
      refine ⟨.agg ((c.toList.drop off).take n).toArray, ?_, .agg _ _ ?_⟩
      · simp [loadVar, run_agg h1, run_size h2, run_cells hw (n := n) (off := off) (by omega)]
      · have e : ((c.toList.take cs.length).drop off).take n = (c.toList.drop off).take n := by
          rw [List.drop_take, List.take_take]
          congr 1
          omega
        rwa [e] at hsp
    · rename_i n h1 h2
      obtain ⟨v, h3, h4⟩ := (hV.drop off).head h
      refine ⟨v, ?_, h4⟩
      rw [List.head?_drop] at h3
      have h5 : w.cell? ⟨r.blk, off, none⟩ = some v := by
        rw [World.cell?, hw]
        rw [List.getElem?_take] at h3
        split at h3
        · simpa using h3
        · cases h3
      simp [loadVar, run_agg h1, h5]
    · cases h

/-- what an operation tells. -/
def Tells (P : Program) (ρ : Nat → Value) (E : Env) (s : Sem Next) (w : World) : Res → Prop
  | .val x => ∃ v, s.run P w = .ok (.value v) w ∧ VR ρ E x v
  | .new n sh => ∃ (w' : World) (obj : Obj) (v : Value) (sz z : Nat), s.run P w = .ok (.value v) w' ∧ Pushed w w' obj ∧
      ∀ (E' : Env) (b : Nat), E.le E' → E' b = some ⟨w.heap.size, sz, z⟩ → BR ρ E' ⟨w.heap.size, sz, z⟩ (n.blk b) (some obj) ∧ VR ρ E' (sh.av b) v
theorem run_v {s : Sem Value} {w w' : World} {v : Value} (h : s.run P w = .ok v w') : (do pure (Next.value (← s)) : Sem Next).run P w = .ok (.value v) w' := by simp [h]
theorem tell {s : Sem Value} {v : Value} {x : AV} (h : s.run P w = .ok v w) (hv : VR ρ E x v) : Tells P ρ E (do pure (Next.value (← s))) w (.val x) := ⟨v, run_v h, hv⟩

theorem lscal_sound {s : Sem Value} {K : AV → Bool} (h : lscal P s K = true) (w : World) : ∃ a v, K a = true ∧ s.run P w = .ok v w ∧ VR ρ E a v := by
  unfold lscal at h
  split at h
  · cases h
  · rename_i v hv
    split at h
    · cases h
    · rename_i a ha
      rw [force_eq] at h
      exact ⟨a, v, h, asPure_run hv w, ofV_sound ha⟩

theorem map_ofNat_inj : ∀ {s u : List Nat}, (∀ x ∈ s, x < 256) → (∀ x ∈ u, x < 256) → s.map UInt8.ofNat = u.map UInt8.ofNat → s = u
  | [], [], _, _, _ => rfl
  | [], _ :: _, _, _, h => by cases h
  | _ :: _, [], _, _, h => by cases h
  | a :: s, b :: u, hs, hu, h => by
    simp only [List.map_cons, List.cons.injEq] at h
    have ha := hs a (by simp)
    have hb := hu b (by simp)
    have : a = b := by
      have := congrArg UInt8.toNat h.1
      simpa [Nat.mod_eq_of_lt ha, Nat.mod_eq_of_lt hb] using this
    rw [this, map_ofNat_inj (fun x hx => hs x (by simp [hx])) (fun x hx => hu x (by simp [hx])) h.2]

theorem oneNil_sound {d : TypeDesc} {t : TypeId} (hu : P.underlying t = some d) {a b : AV} {u v : Value} (h : oneNil d a b = true) (ha : VR ρ E a u) (hb : VR ρ E b v) (x y : Operand) (w : World) :
    (Op.equal t u v).run P w = .ok false w ∧ ∀ op, op = .eql ∨ op = .neq → (eqGuard op t x y u v).run P w = .ok () w ∧ Go.binOp op t u v = (if op = .eql then (do pure (.bool (← Op.equal t u v))) else (do pure (.bool (!(← Op.equal t u v))))) := by
  suffices hs : (∀ n, (Op.equalIn (n + 1) t u v).run P w = .ok false w) ∧ ∀ op, op = .eql ∨ op = .neq → (eqGuard op t x y u v).run P w = .ok () w ∧ Go.binOp op t u v = (if op = .eql then (do pure (.bool (← Op.equal t u v))) else (do pure (.bool (!(← Op.equal t u v))))) from
    ⟨hs.1 9999, hs.2⟩
  unfold oneNil at h
  split at h <;> first | (cases h; done) | skip
  all_goals
    cases ha <;> cases hb <;> (
      refine ⟨fun n => ?_, fun op ho => ?_⟩
      · simp [Op.equalIn, run_und hu]
      · rcases ho with rfl | rfl <;> exact ⟨by simp [eqGuard], rfl⟩)
theorem wrap_small {k : IntKind} {r : Nat} (hk : isWide k = true) (h : r < 2147483648) : k.wrap (Int.ofNat r) = Int.ofNat r := by
  cases k <;> simp [isWide] at hk <;> simp [IntKind.wrap, IntKind.bits, IntKind.signed] <;> omega
theorem wrap_u32 {r : Nat} (h : r < 4294967296) : IntKind.u32.wrap (Int.ofNat r) = Int.ofNat r := by
  simp [IntKind.wrap, IntKind.bits, IntKind.signed]; omega
theorem two_sound {b : Bool} {K : AV → Bool} (h : two b K = true) : K (.bool b) = true := by
  unfold two at h
  split at h <;> exact h
theorem beq_ofNat (m n : Nat) : (Int.ofNat m == Int.ofNat n) = Nat.beq m n := by
  rw [Bool.eq_iff_iff, beq_iff_eq]
  exact ⟨fun h => by cases h; exact Nat.beq_refl _, fun h => by rw [Nat.eq_of_beq_eq_true h]⟩
theorem fastBin_sound {op : BinOp} {t : TypeId} {x y : Operand} {k k' : IntKind} {m n : Nat} {slow : Bool} {K : AV → Bool} (h : fastBin op k k' m n slow K = true) (w : World) :
    slow = true ∨ ∃ q r, K q = true ∧ (do eqGuard op t x y (.int k (.ofNat m)) (.int k' (.ofNat n)); Go.binOp op t (.int k (.ofNat m)) (.int k' (.ofNat n)) : Sem Value).run P w = .ok r w ∧ VR ρ E q r := by
  unfold fastBin at h
  split at h
  · exact .inl h
  · rename_i hk
    have hk : k = k' := by simpa using hk
    subst hk
    have hg : ∀ (e : BinOp), (eqGuard e t x y (.int k (.ofNat m)) (.int k (.ofNat n))).run P w = .ok () w := fun e => by cases e <;> simp [eqGuard]
    split at h
    · exact .inr ⟨_, .bool (Int.ofNat m == Int.ofNat n), two_sound h, by simp only [Sem.run_bind, hg, Result.andThen_ok]; simp [Go.binOp, Op.intCmp], by
        have : (Int.ofNat m == Int.ofNat n) = Nat.beq m n := beq_ofNat m n
        rw [this]; exact .bool _⟩
    · exact .inr ⟨_, .bool (Int.ofNat m != Int.ofNat n), two_sound h, by simp only [Sem.run_bind, hg, Result.andThen_ok]; simp [Go.binOp, Op.intCmp], by
        have : (Int.ofNat m != Int.ofNat n) = !(Nat.beq m n) := by rw [← beq_ofNat m n]; rfl
        rw [this]; exact .bool _⟩
    · exact .inr ⟨_, .bool (Int.ofNat m < Int.ofNat n), two_sound h, by simp only [Sem.run_bind, hg, Result.andThen_ok]; simp [Go.binOp, Op.intCmp], by
        have : decide (Int.ofNat m < Int.ofNat n) = Nat.blt m n := by
          rw [Bool.eq_iff_iff, decide_eq_true_iff]; simp [Nat.blt]; omega
        rw [this]; exact .bool _⟩
    · exact .inr ⟨_, .bool (Int.ofNat m ≤ Int.ofNat n), two_sound h, by simp only [Sem.run_bind, hg, Result.andThen_ok]; simp [Go.binOp, Op.intCmp], by
        have : decide (Int.ofNat m ≤ Int.ofNat n) = Nat.ble m n := by
          rw [Bool.eq_iff_iff, decide_eq_true_iff]; simp
        rw [this]; exact .bool _⟩
    · exact .inr ⟨_, .bool (Int.ofNat m > Int.ofNat n), two_sound h, by simp only [Sem.run_bind, hg, Result.andThen_ok]; simp [Go.binOp, Op.intCmp], by
        have : decide (Int.ofNat m > Int.ofNat n) = Nat.blt n m := by
          rw [Bool.eq_iff_iff, decide_eq_true_iff]; simp [Nat.blt]; omega
        rw [this]; exact .bool _⟩
    · exact .inr ⟨_, .bool (Int.ofNat m ≥ Int.ofNat n), two_sound h, by simp only [Sem.run_bind, hg, Result.andThen_ok]; simp [Go.binOp, Op.intCmp], by
        have : decide (Int.ofNat m ≥ Int.ofNat n) = Nat.ble n m := by
          rw [Bool.eq_iff_iff, decide_eq_true_iff]; simp
        rw [this]; exact .bool _⟩
    · split at h
      · rename_i hc
        rw [Bool.and_eq_true] at hc
        have hlt : m + n < 2147483648 := by have := hc.2; simp [Nat.blt] at this; omega
        rw [fNat_eq] at h
        refine .inr ⟨_, .int k (k.wrap (Int.ofNat m + Int.ofNat n)), h, by simp only [Sem.run_bind, hg, Result.andThen_ok]; simp [Go.binOp, Op.intArith], ?_⟩
        have : Int.ofNat m + Int.ofNat n = Int.ofNat (m + n) := rfl
        rw [this, wrap_small hc.1 hlt]
        exact .int _ _
      · exact .inl h
    · split at h
      · rename_i hc
        simp only [Bool.and_eq_true] at hc
        obtain ⟨hu, hm, hn⟩ := hc
        have hm : m < 4294967296 := by simp [Nat.blt] at hm; omega
        have hn : n < 4294967296 := by simp [Nat.blt] at hn; omega
        obtain rfl : k = .u32 := by cases k <;> simp [isU32] at hu; rfl
        rw [fNat_eq] at h
        refine .inr ⟨_, .int .u32 (IntKind.u32.wrap (Int.ofNat (BitVec.ofInt 32 (Int.ofNat m) &&& BitVec.ofInt 32 (Int.ofNat n)).toNat)), h, by simp only [Sem.run_bind, hg, Result.andThen_ok]; rfl, ?_⟩
        have e : (BitVec.ofInt 32 (Int.ofNat m) &&& BitVec.ofInt 32 (Int.ofNat n)).toNat = m &&& n := by
          rw [BitVec.toNat_and]
          simp only [BitVec.toNat_ofInt]
          congr 1 <;> simp <;> omega
        rw [e, wrap_u32 (Nat.lt_of_le_of_lt Nat.and_le_left hm)]
        exact .int _ _
      · exact .inl h
    · split at h
      · rename_i hc
        simp only [Bool.and_eq_true] at hc
        obtain ⟨hu, hm, hn⟩ := hc
        have hm : m < 4294967296 := by simp [Nat.blt] at hm; omega
        have hn : n < 4294967296 := by simp [Nat.blt] at hn; omega
        obtain rfl : k = .u32 := by cases k <;> simp [isU32] at hu; rfl
        rw [fNat_eq] at h
        refine .inr ⟨_, .int .u32 (IntKind.u32.wrap (Int.ofNat (BitVec.ofInt 32 (Int.ofNat m) ^^^ BitVec.ofInt 32 (Int.ofNat n)).toNat)), h, by simp only [Sem.run_bind, hg, Result.andThen_ok]; rfl, ?_⟩
        have e : (BitVec.ofInt 32 (Int.ofNat m) ^^^ BitVec.ofInt 32 (Int.ofNat n)).toNat = m ^^^ n := by
          rw [BitVec.toNat_xor]
          simp only [BitVec.toNat_ofInt]
          congr 1 <;> simp <;> omega
        rw [e, wrap_u32 (Nat.xor_lt_two_pow (n := 32) hm hn)]
        exact .int _ _
      · exact .inl h
    · exact .inl h
theorem aBin_sound {op : BinOp} {t : TypeId} {x y : Operand} {a b : AV} {u v : Value} {K : Res → Bool} (h : aBin P op t x y a b K = true) (ha : VR ρ E a u) (hb : VR ρ E b v) (w : World) :
    ∃ q r, K (.val q) = true ∧ (do eqGuard op t x y u v; Go.binOp op t u v : Sem Value).run P w = .ok r w ∧ VR ρ E q r := by
  unfold aBin at h
  split at h
  · rename_i s s'
    cases ha with
    | str _ hs =>
      cases hb with
      | str _ hs' =>
        have hg : ∀ (e : BinOp), (eqGuard e t x y (.string ⟨⟨s.map UInt8.ofNat⟩⟩) (.string ⟨⟨s'.map UInt8.ofNat⟩⟩)).run P w = .ok () w := fun e => by cases e <;> simp [eqGuard]
        have key : (s.map UInt8.ofNat == s'.map UInt8.ofNat) = decide (s = s') := by
          by_cases e : s = s'
          · subst e; simp
          · have : ¬ s.map UInt8.ofNat = s'.map UInt8.ofNat := fun h => e (map_ofNat_inj hs hs' h)
            simp [e, this]
        have hq : (Go.binOp .eql t (.string ⟨⟨s.map UInt8.ofNat⟩⟩) (.string ⟨⟨s'.map UInt8.ofNat⟩⟩)).run P w = .ok (.bool (decide (s = s'))) w := by
          simp only [Go.binOp, Op.stringOp, ByteArray.toList_eq, Sem.run_pure, key]
        have hn : (Go.binOp .neq t (.string ⟨⟨s.map UInt8.ofNat⟩⟩) (.string ⟨⟨s'.map UInt8.ofNat⟩⟩)).run P w = .ok (.bool (!decide (s = s'))) w := by
          simp only [Go.binOp, Op.stringOp, ByteArray.toList_eq, Sem.run_pure, key]
        split at h
        · split at h
          · rename_i hd
            exact ⟨_, _, h, by simp only [Sem.run_bind, hg, Result.andThen_ok, hq, hd], .bool true⟩
          · rename_i hd
            exact ⟨_, _, h, by simp only [Sem.run_bind, hg, Result.andThen_ok, hq, hd], .bool false⟩
        · split at h
          · rename_i hd
            exact ⟨_, _, h, by simp only [Sem.run_bind, hg, Result.andThen_ok, hn, hd]; rfl, .bool false⟩
          · rename_i hd
            exact ⟨_, _, h, by simp only [Sem.run_bind, hg, Result.andThen_ok, hn, hd]; rfl, .bool true⟩
        · cases h
  · rename_i j k n
    obtain ⟨hjk, h'⟩ := cond_true' h
    clear h
    have h := h'
    clear h'
    have hjk : j = k := by simpa using hjk
    subst hjk
    cases ha with
    | unkI _ m =>
      cases hb
      have hg : ∀ (e : BinOp), (eqGuard e t x y (.int j m) (.int j n)).run P w = .ok () w := fun e => by cases e <;> simp [eqGuard]
      split at h
      · exact ⟨_, .bool (m == n), h, by simp only [Sem.run_bind, hg, Result.andThen_ok]; simp [Go.binOp, Op.intCmp], .unkB _⟩
      · exact ⟨_, .bool (m != n), h, by simp only [Sem.run_bind, hg, Result.andThen_ok]; simp [Go.binOp, Op.intCmp], .unkB _⟩
      · exact ⟨_, .bool (m < n), h, by simp only [Sem.run_bind, hg, Result.andThen_ok]; simp [Go.binOp, Op.intCmp], .unkB _⟩
      · exact ⟨_, .bool (m ≤ n), h, by simp only [Sem.run_bind, hg, Result.andThen_ok]; simp [Go.binOp, Op.intCmp], .unkB _⟩
      · exact ⟨_, .bool (m > n), h, by simp only [Sem.run_bind, hg, Result.andThen_ok]; simp [Go.binOp, Op.intCmp], .unkB _⟩
      · exact ⟨_, .bool (m ≥ n), h, by simp only [Sem.run_bind, hg, Result.andThen_ok]; simp [Go.binOp, Op.intCmp], .unkB _⟩
      · cases h
  · rename_i neg k n
    obtain ⟨hjk, h'⟩ := cond_true' h
    clear h
    have h := h'
    clear h'
    have hjk : k = .i64 := by simpa using hjk
    subst hjk
    cases ha with
    | half m =>
      cases hb
      have hg : ∀ (e : BinOp), (eqGuard e t x y (.int .i64 m) (.int .i64 n)).run P w = .ok () w := fun e => by cases e <;> simp [eqGuard]
      split at h
      · exact ⟨_, .bool (m == n), h, by simp only [Sem.run_bind, hg, Result.andThen_ok]; simp [Go.binOp, Op.intCmp], .unkB _⟩
      · exact ⟨_, .bool (m != n), h, by simp only [Sem.run_bind, hg, Result.andThen_ok]; simp [Go.binOp, Op.intCmp], .unkB _⟩
      · split at h
        · rename_i hn
          have hn : n = 0 := by simpa using hn
          subst hn
          exact ⟨_, .bool (m < 0), h, by simp only [Sem.run_bind, hg, Result.andThen_ok]; simp [Go.binOp, Op.intCmp], .bool _⟩
        · exact ⟨_, .bool (m < n), h, by simp only [Sem.run_bind, hg, Result.andThen_ok]; simp [Go.binOp, Op.intCmp], .unkB _⟩
      · exact ⟨_, .bool (m ≤ n), h, by simp only [Sem.run_bind, hg, Result.andThen_ok]; simp [Go.binOp, Op.intCmp], .unkB _⟩
      · exact ⟨_, .bool (m > n), h, by simp only [Sem.run_bind, hg, Result.andThen_ok]; simp [Go.binOp, Op.intCmp], .unkB _⟩
      · split at h
        · rename_i hn
          have hn : n = 0 := by simpa using hn
          subst hn
          have hd : (!decide (m < 0)) = decide (m ≥ 0) := by by_cases h0 : m < 0 <;> simp [h0] <;> omega
          rw [hd] at h
          exact ⟨_, .bool (m ≥ 0), h, by simp only [Sem.run_bind, hg, Result.andThen_ok]; simp [Go.binOp, Op.intCmp], .bool _⟩
        · exact ⟨_, .bool (m ≥ n), h, by simp only [Sem.run_bind, hg, Result.andThen_ok]; simp [Go.binOp, Op.intCmp], .unkB _⟩
      · cases h
  · rename_i k m k' n
    cases ha
    cases hb
    rcases fastBin_sound (P := P) (ρ := ρ) (E := E) (t := t) (x := x) (y := y) h w with hs | ⟨q, r, hK, hr, hv⟩
    · obtain ⟨q, r, hK, hr, hv⟩ := lscal_sound (ρ := ρ) (E := E) hs w
      exact ⟨q, r, hK, hr, hv⟩
    · exact ⟨q, r, hK, hr, hv⟩
  · split at h
    · rename_i v' w' h1 h2
      rw [toV_sound h1 ha, toV_sound h2 hb]
      obtain ⟨q, r, hK, hr, hv⟩ := lscal_sound h w
      exact ⟨q, r, hK, hr, hv⟩
    · split at h
      · cases h
      · rename_i d hu
        obtain ⟨h1, h⟩ := cond_true' h
        obtain ⟨he, hz⟩ := oneNil_sound hu h1 ha hb x y w
        split at h
        · obtain ⟨hg, hq⟩ := hz .eql (.inl rfl)
          refine ⟨_, .bool false, h, ?_, .bool false⟩
          simp [Sem.run_bind, hg, hq, he]
        · obtain ⟨hg, hq⟩ := hz .neq (.inr rfl)
          refine ⟨_, .bool true, h, ?_, .bool true⟩
          simp [Sem.run_bind, hg, hq, he]
        · cases h
end Go.Proofs.Ytandjcalokecjaa.Ev
