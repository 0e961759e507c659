import Derived.Test.YtmddbpkojboogaaVecF
import Derived.ChangeKeysEq
namespace Go.Proofs.Ytmddbpkojboogaa
open Go.RowKit
/-! vectors that are compared; loads and stores of whole vectors, guarded or not. -/
/-- an operation that is wanted, guarded or not. -/
theorem wpList_wanted {P : Program} {ops : Array Oper} {Q : Exit → Act → World → Prop} {a : Act} {w : World} {rest : List Oper} {o : Oper} (hw : Region.wanted o (yielded ops a.tmps) = true) (h : o.wp P a w (wpList P ops Q rest) Q) : wpList P ops Q (o :: rest) a w := by
  unfold wpList
  rw [if_pos hw]
  exact .inl h
/-- an array loaded whole, guarded or not. -/
theorem wpList_load_any {P : Program} {ops : Array Oper} {rest : List Oper} {o : Oper} {a : Act} {w : World} {Q : Exit → Act → World → Prop} (hw : Region.wanted o (yielded ops a.tmps) = true) (ty : TypeId) (x : Operand) (ho : o.op = .load ty x)
    (g : Nat) (hx : a.eval x = .pointer (some ⟨g, 0, none⟩)) (t : TypeId) (cs : Array Value) (fr : Nat × Nat) (d : TypeDesc) (hg : w.heap[g]? = some (.cells cs t fr))
    (hu : P.underlying ty = some d) (hd : (match d with | .struct _ | .array _ _ => true | _ => false) = true) (hi : (P.info? ty).map (·.size) = some cs.size)
    (h : wpList P ops Q rest (a.put o.dst (.agg cs)) w) : wpList P ops Q (o :: rest) a w :=
  wpList_wanted hw (wp_load_row ty x ho g hx t cs fr d hg hu hd hi h)
/-- an array stored whole, the world behind it named. -/
theorem wpList_store_at {P : Program} {ops : Array Oper} {rest : List Oper} {o : Oper} {a : Act} {w W : World} {Q : Exit → Act → World → Prop} (hgd : o.guard = none) (ty : TypeId) (x y : Operand) (ho : o.op = .store ty x y)
    (g : Nat) (cells : Array Value) (hx : a.eval x = .pointer (some ⟨g, 0, none⟩)) (hy : a.eval y = .agg cells)
    (t : TypeId) (old : Array Value) (hg : w.heap[g]? = some (.cells old t (0, 0))) (hi : (P.info? ty).map (·.size) = some cells.size)
    (hold : old.size = cells.size) (h1 : cells.all (·.oneCell') = true) (hW : w.setRow g cells = W)
    (h : wpList P ops Q rest (a.put o.dst undef) W) : wpList P ops Q (o :: rest) a w :=
  wpList_store_row hgd ty x y ho g cells hx hy t old hg hi hold h1 (by rw [hW]; exact h)
theorem eqItems_vec (d : Nat) (w : World) (L M : List Nat) : ∀ is : List Nat, (∀ i ∈ is, i < L.length ∧ i < M.length) →
    (Op.eqItems (d + 1) 22 (Try.prog.cellsOf 22) (vecA L) (vecA M) is).run Try.prog w = .ok (is.all fun i => decide (L[i]?.getD 0 = M[i]?.getD 0)) w
  | [], _ => by simp [Op.eqItems]
  | i :: is, h => by
    obtain ⟨h1, h2⟩ := h i (by simp)
    have hc : Try.prog.cellsOf 22 = 1 := by kernel_rfl
    have hp : ∀ K : List Nat, i < K.length → (part 22 (vecA K) (i * 1)).run Try.prog w = .ok (.int .u64 ((K[i]?.getD 0 : Nat) : Int)) w := fun K hk => by
      have ha : (isAgg 22).run Try.prog w = .ok false w := by kernel_rfl
      have hv := vecA_at K i hk
      simp [part, ha, hv, hk]
    have ih := eqItems_vec d w L M is (fun j hj => h j (by simp [hj]))
    simp only [Op.eqItems, hc, Sem.run_bind, hp L h1, hp M h2, Result.andThen_ok, run_equalIn_int w d 22 .u64 .u64 _ _ Try.underlying22]
    rw [hc] at ih
    by_cases e : L[i]?.getD 0 = M[i]?.getD 0
    · have e' : (((L[i]?.getD 0 : Nat) : Int) == ((M[i]?.getD 0 : Nat) : Int)) = true := by simp [e]
      rw [e', List.all_cons, decide_eq_true e, Bool.true_and]
      exact ih
    · have e' : (((L[i]?.getD 0 : Nat) : Int) == ((M[i]?.getD 0 : Nat) : Int)) = false := by
        rw [beq_eq_false_iff_ne]; omega
      rw [e', List.all_cons, decide_eq_false e, Bool.false_and]
      rfl
theorem vec_ext {L M : List Nat} (hL : L.length = 6) (hM : M.length = 6) : ((List.range 6).all fun i => decide (L[i]?.getD 0 = M[i]?.getD 0)) = decide (L = M) := by
  obtain ⟨a, b, c, d, e, f, rfl⟩ := six hL
  obtain ⟨a', b', c', d', e', f', rfl⟩ := six hM
  rw [Bool.eq_iff_iff]
  simp [show List.range 6 = [0, 1, 2, 3, 4, 5] from rfl]
/-- two vectors are one just if their numbers are. -/
theorem vec_equal {L M : List Nat} (hL : L.length = 6) (hM : M.length = 6) (w : World) : (Op.equalIn 10000 24 (.agg (vecA L)) (.agg (vecA M))).run Try.prog w = .ok (decide (L = M)) w := by
  have hi : Try.prog.info? 22 = some ((Try.prog.info? 22).getD default) := by kernel_rfl
  have h := run_equalIn_array w 9999 (vecA L) (vecA M) Try.underlying24 hi
  rw [h, eqItems_vec 9998 w L M (List.range 6) (fun i hi => by rw [hL, hM]; simpa using hi), vec_ext hL hM]
theorem vec_same {L M : List Nat} (hL : L.length = 6) (h : M = L) (w : World) : (Op.equalIn 10000 24 (.agg (vecA L)) (.agg (vecA M))).run Try.prog w = .ok true w := by
  rw [vec_equal hL (by rw [h]; exact hL), decide_eq_true h.symm]
theorem vec_other {L M : List Nat} (hL : L.length = 6) (hM : M.length = 6) (h : ¬ L = M) (w : World) : (Op.equalIn 10000 24 (.agg (vecA L)) (.agg (vecA M))).run Try.prog w = .ok false w := by
  rw [vec_equal hL hM, decide_eq_false h]
theorem vecL_len (L : List Nat) : (vecL L).length = L.length := by simp [vecL]
theorem vecA_six {L : List Nat} (h : L.length = 6) : (vecA Z6).size = (vecA L).size := by rw [vecA_size, vecA_size, h]; rfl
/-- a slice of two vectors of the call's own making. -/
theorem vecs_two (W : World) (g : Nat) (t : TypeId) (a b : List Nat) (ha : a.length = 6) (hb : b.length = 6) (hB : Blk W g t (vecL a ++ vecL b).toArray) : Vecs W W.heap.size (some ⟨g, 0, none⟩) [a, b] := fun _ => by
  refine ⟨g, 0, rfl, hB.lt, fun i L hi => ?_⟩
  have hla := vecL_len a
  match i, hi with
  | 0, hi =>
    injection hi with hi; subst hi
    refine ⟨ha, fun j v hj => ?_⟩
    have hjl : j < (vecL a).length := by
      rcases Nat.lt_or_ge j (vecL a).length with h | h
      · exact h
      · rw [List.getElem?_eq_none h] at hj; cases hj
    rw [hB.cell, show 0 + 0 * 6 + j = j by omega]
    simpa [List.getElem?_append_left hjl] using hj
  | 1, hi =>
    injection hi with hi; subst hi
    refine ⟨hb, fun j v hj => ?_⟩
    rw [hB.cell, show 0 + 1 * 6 + j = (vecL a).length + j by omega]
    simpa [List.getElem?_append_right] using hj
  | i + 2, hi => cases hi
theorem run_two {L M : List Nat} (hL : L.length = 6) (hM : M.length = 6) (W : World) :
    (Instr.buildSlice 25 2 #[(0, .agg (vecA L)), (1, .agg (vecA M))]).run Try.prog W = .ok (.slice (some ⟨W.heap.size, 0, none⟩) 2 2) (W.alloc (.cells (vecL L ++ vecL M).toArray 24)) := by
  obtain ⟨a, b, c, d, e, f, rfl⟩ := six hL
  obtain ⟨a', b', c', d', e', f', rfl⟩ := six hM
  kernel_rfl
/-- a slice of two vectors, made. -/
theorem wpList_two {ops : Array Oper} {rest : List Oper} {o : Oper} {a : Act} {w : World} {Q : Exit → Act → World → Prop} (hw : Region.wanted o (yielded ops a.tmps) = true) (x y : Operand) (ho : o.op = .buildSlice 25 2 #[(0, x), (1, y)])
    (L M : List Nat) (hL : L.length = 6) (hM : M.length = 6) (hx : a.eval x = .agg (vecA L)) (hy : a.eval y = .agg (vecA M))
    (h : wpList Try.prog ops Q rest (a.put o.dst (.slice (some ⟨w.heap.size, 0, none⟩) 2 2)) (w.alloc (.cells (vecL L ++ vecL M).toArray 24))) : wpList Try.prog ops Q (o :: rest) a w := by
  refine wpList_wanted hw ?_
  unfold Oper.wp execOp
  have hm : (#[(0, x), (1, y)] : Array (Nat × Operand)).map (fun x => (x.1, a.eval x.2)) = #[(0, .agg (vecA L)), (1, .agg (vecA M))] := by simp [hx, hy]
  simp only [ho, Sem.run_bind, Sem.run_pure, hm, run_two hL hM w, Result.andThen_ok]
  exact h
theorem join_two (a b : List Nat) (ha : a.length = 6) (hb : b.length = 6) (g cap : Nat) (w : World) (hB : Blk w g 24 (vecL a ++ vecL b).toArray) :
    Calls Try.prog 18 #[.slice (some ⟨g, 0, none⟩) 2 cap] w fun e w' => e = .returned (.agg (vecA (joinV [a, b]))) ∧ Below w.heap.size w w' :=
  join_any (some ⟨g, 0, none⟩) 2 cap [a, b] w (vecs_two _ _ _ a b ha hb hB) (by simp [ha, hb]) rfl (by simp)
theorem meet_two (a b : List Nat) (ha : a.length = 6) (hb : b.length = 6) (g cap : Nat) (w : World) (hB : Blk w g 24 (vecL a ++ vecL b).toArray) :
    Calls Try.prog 20 #[.slice (some ⟨g, 0, none⟩) 2 cap] w fun e w' => e = .returned (.agg (vecA (meetV [a, b]))) ∧ Below w.heap.size w w' :=
  meet_any (some ⟨g, 0, none⟩) 2 cap [a, b] w (vecs_two _ _ _ a b ha hb hB) (by simp [ha, hb]) rfl (by simp)
theorem joinV_len {l : List (List Nat)} (hs : ∀ v ∈ l, v.length = 6) : (joinV l).length = 6 := chosenV_len gtN l hs
theorem meetV_len {l : List (List Nat)} (hs : ∀ v ∈ l, v.length = 6) : (meetV l).length = 6 := chosenV_len ltN l hs
/-- the vectors that a law keeps: each in a block of its own; nothing below was touched. -/
structure Vs (w W : World) (l : List (Nat × List Nat)) : Prop where
  blk : ∀ p ∈ l, Blk W p.1 24 (vecA p.2)
  bel : Below w.heap.size w W
theorem Vs.get {w W : World} {l : List (Nat × List Nat)} (h : Vs w W l) {g : Nat} {L : List Nat} (hm : (g, L) ∈ l) : Blk W g 24 (vecA L) := h.blk (g, L) hm
theorem Vs.nil (w : World) : Vs w w [] := ⟨(fun p hp => by cases hp), Below.refl _ _⟩
theorem Vs.next {w W W' : World} {l : List (Nat × List Nat)} (h : Vs w W l) (hb : Below W.heap.size W W') : Vs w W' l :=
  ⟨fun p hp => (h.blk p hp).below hb (h.blk p hp).lt, h.bel.trans (hb.mono h.bel.size)⟩
theorem Vs.alloc {w W : World} {l : List (Nat × List Nat)} (h : Vs w W l) (o : Obj) : Vs w (W.alloc o) l :=
  ⟨fun p hp => (h.blk p hp).alloc o, h.bel.alloc h.bel.size o⟩
theorem Vs.new {w W : World} {l : List (Nat × List Nat)} (h : Vs w W l) (L : List Nat) (g : Nat) (hg : W.heap.size = g) : Vs w (W.alloc (.cells (vecA L) 24)) (l ++ [(g, L)]) :=
  ⟨fun p hp => by
    rcases List.mem_append.1 hp with hp | hp
    · exact (h.blk p hp).alloc _
    · rw [List.mem_singleton.1 hp, ← hg]; exact Blk.new W 24 (vecA L), h.bel.alloc h.bel.size _⟩
theorem Vs.nth {w W : World} {l : List (Nat × List Nat)} (h : Vs w W l) (i : Nat) {g : Nat} {L : List Nat} (hi : l[i]? = some (g, L)) : Blk W g 24 (vecA L) := h.get (List.mem_of_getElem? hi)
theorem Blk.at_ (W : World) (t : TypeId) (cs : Array Value) (g : Nat) (hg : W.heap.size = g) : Blk (W.alloc (.cells cs t)) g t cs := by subst hg; exact Blk.new W t cs
theorem join_new (a b : List Nat) (ha : a.length = 6) (hb : b.length = 6) (g : Nat) (w : World) (hg : w.heap.size = g) :
    Calls Try.prog 18 #[.slice (some ⟨g, 0, none⟩) 2 2] (w.alloc (.cells (vecL a ++ vecL b).toArray 24)) fun e w' => e = .returned (.agg (vecA (joinV [a, b]))) ∧ Below (w.alloc (.cells (vecL a ++ vecL b).toArray 24)).heap.size (w.alloc (.cells (vecL a ++ vecL b).toArray 24)) w' :=
  join_two a b ha hb g 2 _ (Blk.at_ w _ _ g hg)
theorem meet_new (a b : List Nat) (ha : a.length = 6) (hb : b.length = 6) (g : Nat) (w : World) (hg : w.heap.size = g) :
    Calls Try.prog 20 #[.slice (some ⟨g, 0, none⟩) 2 2] (w.alloc (.cells (vecL a ++ vecL b).toArray 24)) fun e w' => e = .returned (.agg (vecA (meetV [a, b]))) ∧ Below (w.alloc (.cells (vecL a ++ vecL b).toArray 24)).heap.size (w.alloc (.cells (vecL a ++ vecL b).toArray 24)) w' :=
  meet_two a b ha hb g 2 _ (Blk.at_ w _ _ g hg)
end Go.Proofs.Ytmddbpkojboogaa
