import Derived.Test.YtjihbjjekhncaaaEvR
namespace Go.Proofs.Ytjihbjjekhncaaa
open Go.RowKit
/-! two slices of the call's own that grow side by side. -/
section
variable {ops : Array Oper} {Q : Exit → Act → World → Prop} {a : Act} {w : World} {rest : List Oper} {o : Oper}
theorem wpList_ap3 (hw : Region.wanted o (yielded ops a.tmps) = true) (s x : Operand) (ho : o.op = .call { callee := .builtin .append, args := #[s, x], argTypes := #[27, 27] }) (hty : o.type = 27)
    (base : Nat) (v : Value) (xs ys zs : List UInt8) (B : Nat) (A : Option Addr) (l c : Nat) (hs : a.eval s = v) (hx : a.eval x = .slice A l c) (hlen : l = ys.length) (hz : xs ++ ys = zs)
    (hown : OwnB w base 5 v xs) (hr : Bytes w B A ys) (hsum : xs.length + ys.length ≤ 140737488355328) (w0 : World) (hbel : Below base w0 w) (hbase : base ≤ w.heap.size)
    (h : ∀ A' c' n' w', Hid (n' = zs.length) → OwnB w' base 5 (.slice A' n' c') zs → Below base w0 w' → base ≤ w'.heap.size → w.grownBy w' v.ownBlock → ((Value.slice A' n' c').ownBlock = v.ownBlock ∨ (Value.slice A' n' c').ownBlock = some w.heap.size) →
      wpList Try.prog ops Q rest (a.put o.dst (.slice A' n' c')) w') : wpList Try.prog ops Q (o :: rest) a w := by
  subst hlen hz
  obtain ⟨v', w', hrr, h2, h3, h4⟩ := app_any w base v xs ys hown B A c hr hsum hbase
  refine wpList_wanted hw ?_
  unfold Oper.wp execOp
  simp only [ho, hty, resolve, invoke, builtin, Sem.run_bind, Sem.run_pure, Result.andThen_ok, List.map_toArray, List.map_cons, List.map_nil, hs, hx, hrr]
  obtain ⟨A', c', rfl, hB, hl⟩ := h2.open_
  exact h A' c' _ w' rfl h2 (hbel.grown h3 hbase (fun q hq => (World.ownsRow.lt hown q hq).1)) (Nat.le_trans hbase h3.size) h3 h4
theorem wpList_appE3 (hw : Region.wanted o (yielded ops a.tmps) = true) (s x : Operand) (ho : o.op = .call { callee := .builtin .append, args := #[s, x], argTypes := #[32, 32] })
    (base : Nat) (v : Value) (l : List Ev) (e : Ev) (he : e.d.length = 6) (g c : Nat) (hs : a.eval s = v) (hx : a.eval x = .slice (some ⟨g, 0, none⟩) 1 c) (hB : Blk w g 26 (evA e)) (hown : OwnE w base v l) (hall : ∀ u ∈ l, u.d.length = 6)
    (hlen : l.length + 1 ≤ 1099511627776) (w0 : World) (hbel : Below base w0 w) (hbase : base ≤ w.heap.size)
    (h : ∀ A' c' n' w', Hid (n' = l.length + 1) → OwnE w' base (.slice A' n' c') (l ++ [e]) → Below base w0 w' → base ≤ w'.heap.size → w.grownBy w' v.ownBlock → ((Value.slice A' n' c').ownBlock = v.ownBlock ∨ (Value.slice A' n' c').ownBlock = some w.heap.size) → wpList Try.prog ops Q rest (a.put o.dst (.slice A' n' c')) w') : wpList Try.prog ops Q (o :: rest) a w := by
  obtain ⟨i0, hi, hz0, hz1, hz2⟩ := info_parts infoEF
  obtain ⟨v', w', hr, h2, h3, _, h5⟩ := run_append_own_at (P := Try.prog) w base 32 o.type 26 i0 (.agg (evA E0)) 14 112 Try.underlying32 hi hz0 hz1 hz2 rfl (by omega) v l.length (l.flatMap evL) hown ⟨g, 0, none⟩ 1 c (evL e)
    (by rw [evL_len he]) (fun j u hu => by rw [Addr.add_mid, Nat.zero_add, hB.cell]; simpa [evA] using hu) (evL_one e) (by unfold maxLen; omega) (by omega) hbase
  refine wpList_wanted hw ?_
  unfold Oper.wp execOp
  simp only [ho, resolve, invoke, builtin, Sem.run_bind, Sem.run_pure, Result.andThen_ok, List.map_toArray, List.map_cons, List.map_nil, hs, hx, hr]
  have h2' : OwnE w' base v' (l ++ [e]) := by unfold OwnE; rw [List.flatMap_append, List.length_append]; simpa using h2
  have hall2 : ∀ u ∈ l ++ [e], u.d.length = 6 := fun u hu => by
    rcases List.mem_append.1 hu with h | h
    · exact hall u h
    · rw [List.mem_singleton.1 h]; exact he
  obtain ⟨A', c', rfl, _, _⟩ := h2'.open_ hall2
  have hrow : ∀ k, v.ownBlock = some k → base ≤ k := fun k hk => (World.ownsRow.lt hown k hk).1
  exact h A' c' _ w' (by show _ = _; simp) h2' (hbel.grown h3 hbase hrow) (Nat.le_trans hbase h3.size) h3 h5
end
theorem own_kept {w w' : World} {base : Nat} {e : TypeId} {v : Value} {bs : List UInt8} {row : Option Nat} (h : OwnB w base e v bs) (hg : w.grownBy w' row) (hne : v.ownBlock = none ∨ v.ownBlock ≠ row) : OwnB w' base e v bs := World.ownsRow.kept h hg hne
theorem OwnE.kept {w w' : World} {base : Nat} {v : Value} {l : List Ev} {row : Option Nat} (h : OwnE w base v l) (hg : w.grownBy w' row) (hne : v.ownBlock = none ∨ v.ownBlock ≠ row) : OwnE w' base v l := World.ownsRow.kept h hg hne
/-- two values of the call's own do not lie in one block. -/
def Apart (v u : Value) : Prop := ∀ k, v.ownBlock = some k → u.ownBlock ≠ some k
theorem Apart.ne {v u : Value} (h : Apart v u) : u.ownBlock = none ∨ u.ownBlock ≠ v.ownBlock := by
  cases hv : v.ownBlock with
  | none =>
    cases hu : u.ownBlock with
    | none => exact .inl rfl
    | some k => exact .inr (by simp)
  | some k => exact .inr (h k hv)
theorem Apart.symm {v u : Value} (h : Apart v u) : Apart u v := fun k hk hv => h k hv hk
theorem Apart.grow {v v' u : Value} {n : Nat} (h : Apart v u) (hb : v'.ownBlock = v.ownBlock ∨ v'.ownBlock = some n) (hn : ∀ k, u.ownBlock = some k → k < n) : Apart v' u := fun k hk hu => by
  rcases hb with hb | hb
  · rw [hb] at hk; exact h k hk hu
  · rw [hb] at hk; injection hk with hk; have := hn k hu; omega
theorem allE_len {bs : List UInt8} (h : ¬ bs.length % 91 = 0) : allE bs = none := by
  cases ha : allE bs with
  | none => rfl
  | some l =>
    obtain ⟨h1, h2⟩ := allE_ok bs.length bs l (Nat.le_refl _) ha
    exfalso; apply h
    rw [h2, flat_len l (fun e he => (h1 e he).1)]
    omega
/-- the events of a slice that may be. -/
def mays (l : List Ev) : List Ev := l.filter mayE
theorem mays_yes {l : List Ev} {i : Nat} (h : i < l.length) (hm : mayE l[i] = true) : mays (l.take (i + 1)) = mays (l.take i) ++ [l[i]] := by
  unfold mays; rw [List.take_succ_eq_append_getElem h, List.filter_append]; simp [hm]
theorem mays_no {l : List Ev} {i : Nat} (h : i < l.length) (hm : mayE l[i] = false) : mays (l.take (i + 1)) = mays (l.take i) := by
  unfold mays; rw [List.take_succ_eq_append_getElem h, List.filter_append]; simp [hm]
theorem mays_ok {l : List Ev} (h : ∀ e ∈ l, e.ok) : ∀ e ∈ mays l, e.ok ∧ mayE e = true := fun e he => by
  obtain ⟨h1, h2⟩ := List.mem_filter.1 he
  exact ⟨h e h1, h2⟩
theorem mays_len (l : List Ev) : (mays l).length ≤ l.length := List.length_filter_le _ _
/-- what stands in the midst of bytes. -/
theorem takeE_mid {e : Ev} (h : e.ok) (hm : mayE e = true) (xs ys : List UInt8) : takeE ((xs ++ evB e) ++ ys) (xs.length : Int) = (e, (xs.length : Int) + 91, 0) := by
  have hl := evB_len h.d6
  have ht : (((xs ++ evB e) ++ ys).drop xs.length).take 91 = evB e := by
    rw [List.append_assoc, drop_app _ _ _ rfl, take_app _ _ _ hl]
  have := takeE_ok (bs := (xs ++ evB e) ++ ys) (a := xs.length) (by simp only [List.length_append]; omega) (by rw [ht, ofB_evB h hm]; exact hm)
  rwa [ht, ofB_evB h hm] at this
theorem slice_own (A : Option Addr) (n c : Nat) : True := trivial
end Go.Proofs.Ytjihbjjekhncaaa
