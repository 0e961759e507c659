import Derived.Test.YtnnhkanjneecjaaFrC
namespace Go.Proofs.Ytnnhkanjneecjaa
open Go.RowKit
/-! frame.All. -/
section
variable {ops : Array Oper} {Q : Exit → Act → World → Prop} {a : Act} {w : World} {rest : List Oper} {o : Oper}
/-- append of one string onto the call's own row of strings; nothing but that row's block turns. -/
theorem wpList_aps2 (hw : Region.wanted o (yielded ops a.tmps) = true) (s x : Operand) (ho : o.op = .call { callee := .builtin .append, args := #[s, x], argTypes := #[33, 33] }) (hty : o.type = 33)
    (base : Nat) (v : Value) (acc : List (List UInt8)) (g c : Nat) (A5 : Option Addr) (n5 c5 : Nat) (s5 : List UInt8) (hs : a.eval s = v) (hx : a.eval x = .slice (some ⟨g, 0, none⟩) 1 c) (hcell : w.cell? ⟨g, 0, none⟩ = some (.slice A5 n5 c5))
    (hown : OwnS w base v acc) (h5 : OwnB w base 5 (.slice A5 n5 c5) s5) (hn5 : n5 = s5.length) (hsum : acc.length + 1 ≤ 1099511627777) (w0 : World) (hbel : Below base w0 w) (hbase : base ≤ w.heap.size)
    (h : ∀ A' c' n' w', Hid (n' = (acc ++ [s5]).length) → OwnS w' base (.slice A' n' c') (acc ++ [s5]) → Below base w0 w' → base ≤ w'.heap.size → w.grownBy w' v.ownBlock → wpList Try.prog ops Q rest (a.put o.dst (.slice A' n' c')) w') : wpList Try.prog ops Q (o :: rest) a w := by
  subst hn5
  obtain ⟨xs, h1, h2⟩ := hown
  obtain ⟨i, hi, hz, hsz, hby⟩ := info_parts info22
  obtain ⟨v', w', hr, k1, k2, _, k4⟩ := run_append_own_at (P := Try.prog) w base 33 o.type 22 i (.slice none 0 0) 1 24 Try.underlying33 hi hz hsz hby rfl (by omega) v acc.length xs h1 ⟨g, 0, none⟩ 1 c [.slice A5 s5.length c5] rfl
    (by intro j u hu; match j, hu with
        | 0, hu => injection hu with hu; subst hu; simpa [Addr.add] using hcell
        | j + 1, hu => simp at hu) (by intro u hu; simp at hu; subst hu; rfl) (by unfold maxLen; omega) (by omega) hbase
  have hgr : ∀ q, v.ownBlock = some q → base ≤ q := fun q hq => (World.ownsRow.lt h1 q hq).1
  have hv' : ∃ A' c', v' = .slice A' (acc.length + 1) c' := by
    rcases k1.2 with ⟨hv, hn⟩ | ⟨g', cap, cur, hv, _⟩
    · omega
    · exact ⟨_, _, hv⟩
  obtain ⟨A', c', rfl⟩ := hv'
  have keep : ∀ (x : Value) (s : List UInt8), OwnB w base 5 x s → OwnB w' base 5 x s := fun x s hx => World.ownsRow.kept hx k2 (own_apart hx h1)
  have hown' : OwnS w' base (.slice A' (acc.length + 1) c') (acc ++ [s5]) := by
    refine ⟨xs ++ [.slice A5 s5.length c5], by rw [List.length_append]; exact k1, fun j s hj => ?_⟩
    have hxl : xs.length = acc.length := by have := h1.1; omega
    by_cases hlt : j < acc.length
    · rw [List.getElem?_append_left hlt] at hj
      obtain ⟨A, c, hx, hb⟩ := h2 j s hj
      exact ⟨A, c, by rw [List.getElem?_append_left (by omega)]; exact hx, keep _ _ hb⟩
    · rw [List.getElem?_append_right (by omega)] at hj
      have hj0 : j - acc.length = 0 := by
        rcases Nat.eq_zero_or_pos (j - acc.length) with h' | h'
        · exact h'
        · rw [List.getElem?_eq_none (by simp; omega)] at hj; cases hj
      rw [hj0] at hj
      injection hj with hj
      subst hj
      exact ⟨A5, c5, by rw [List.getElem?_append_right (by omega), show j - xs.length = 0 by omega]; rfl, keep _ _ h5⟩
  refine wpList_wanted hw ?_
  unfold Oper.wp execOp
  simp only [ho, resolve, invoke, builtin, Sem.run_bind, Sem.run_pure, Result.andThen_ok, List.map_toArray, List.map_cons, List.map_nil, hs, hx, hr]
  exact h A' c' _ w' (show _ = _ by rw [List.length_append]; rfl) hown' (hbel.grown k2 hbase hgr) (Nat.le_trans hbase k2.size) k2
end

theorem OwnS.set_far {w : World} {base : Nat} {v : Value} {acc : List (List UInt8)} (h : OwnS w base v acc) {p : Addr} (hp : p.block < base) (u : Value) : OwnS (w.setCell p u) base v acc := by
  obtain ⟨xs, h1, h2⟩ := h
  refine ⟨xs, ownsRow_setCell_below h1 hp u, fun i s hi => ?_⟩
  obtain ⟨A, c, hx, ho⟩ := h2 i s hi
  exact ⟨A, c, hx, ownsRow_setCell_below ho hp u⟩
theorem OwnS.less {w : World} {base b2 : Nat} {v : Value} {acc : List (List UInt8)} (h : OwnS w base v acc) (hb : b2 ≤ base) : OwnS w b2 v acc := by
  obtain ⟨xs, h1, h2⟩ := h
  refine ⟨xs, ⟨h1.1, ?_⟩, fun i s hi => ?_⟩
  · rcases h1.2 with h0 | ⟨g, cap, cur, hv, hg, hr⟩
    · exact .inl h0
    · exact .inr ⟨g, cap, cur, hv, Nat.le_trans hb hg, hr⟩
  · obtain ⟨A, c, hx, ho⟩ := h2 i s hi
    exact ⟨A, c, hx, own_less ho hb⟩
theorem OwnS.ge {w : World} {base : Nat} {v : Value} {acc : List (List UInt8)} (h : OwnS w base v acc) {q : Nat} (hq : v.ownBlock = some q) : base ≤ q := by
  obtain ⟨xs, h1, _⟩ := h
  exact (World.ownsRow.lt h1 q hq).1
theorem RD.grown {w w' : World} {base g : Nat} {A : Option Addr} {c : Nat} {bs : List UInt8} {a : Nat} {row : Option Nat} (h : RD w base g A c bs a) (hg : w.grownBy w' row) (hr : ∀ q, row = some q → g < q) : RD w' base g A c bs a := by
  refine ⟨?_, ?_, h.2.2⟩
  · have hlt := h.1.lt
    unfold Blk
    rw [hg.block g hlt (fun e => by have := hr g e.symm; omega)]
    exact h.1
  · refine Reads.keep h.2.1 fun p hp => ?_
    have hlt := h.1.lt
    have := hg.block p.block (by omega) (fun e => by have := hr p.block e.symm; omega)
    unfold World.cell?
    rw [this]
/-- how much a reader has ahead. -/
def okN : Value → Nat
  | .bool true => 1
  | _ => 0
def ahead (g n : Nat) (ok : Value) (wr : World) : Nat := okN ok * (1 + n - (intOf ((wr.cell? ⟨g, 1, none⟩).getD (.int .i64 0))).toNat)
/-- where All stands. -/
def AllAt (B1 : Nat) (bs : List UInt8) (a : Nat) (acc : List (List UInt8)) (rec ok : Value) (wr : World) : Prop :=
  (ok = .bool true ∧ ∃ f s As ns cs, rec = .slice As ns cs ∧ Hid (ns = s.length) ∧ OwnB wr B1 5 (.slice As ns cs) s ∧ Hid (fal bs f a (acc ++ [s]) = falR bs) ∧ bs.length < f + a) ∨ (ok = .bool false ∧ Hid (falR bs = (acc, a)))
set_option maxHeartbeats 2000000 in
theorem fall_any (A : Option Addr) (n c : Nat) (bs : List UInt8) (w : World) (hb : Bytes w w.heap.size A bs) (hn : n = bs.length) (hl : bs.length ≤ 1099511627776) :
    Calls Try.prog 41 #[.slice A n c] w fun e w' => ∃ A' n' c', e = .returned (.tuple #[.slice A' n' c', .int .i64 (((falR bs).2 : Nat) : Int)]) ∧ n' = (falR bs).1.length ∧ OwnS w' w.heap.size (.slice A' n' c') (falR bs).1 ∧ Below w.heap.size w w' := by
  subst hn
  go_enter Try.func41, Try.ntmps41
  go_wp2_with fail
  refine (new_any A _ c bs w hb rfl hl).mono ?_
  rintro e W1 ⟨g, A1, c1, rfl, hR, hbel⟩
  have hs1 := hbel.size
  have hg1 := hR.1.lt
  have hmx : bs.length ≤ maxLen := by unfold maxLen; omega
  have hgB := hR.1.lt
  by_cases hok : fok bs 0
  case' pos =>
    have OK := Lib.hid hok
    clear hok
    go_wp2_with fail
    refine (next_yes hR hmx hs1 OK.out).mono ?_
    rintro e W2 ⟨A2, n2, c2, rfl, hn2, hown2, hR2, hb2, w1, hbw1, hw2⟩
    have hB1 : W1.heap.size ≤ W2.heap.size := by rw [hw2]; simpa using hbw1.size
    have hb12 := hbel.trans hb2
    have h8 : 8 ≤ fnx bs 0 := by unfold fnx; omega
    have hAt : AllAt W1.heap.size bs (fnx bs 0) [] (.slice A2 n2 c2) (.bool true) W2 := by
      refine .inl ⟨rfl, bs.length, recAt bs 0, A2, n2, c2, rfl, hn2, hown2, ?_, by omega⟩
      show _ = _
      unfold falR
      rw [fal, if_pos OK.out]
    have h0a : ([] : List (List UInt8)).length + okN (.bool true) ≤ fnx bs 0 := by simp only [okN, List.length_nil]; omega
    generalize fnx bs 0 = a0 at hR2 hAt h8 h0a
    clear hR hbel hn2 hown2 hb2 hbw1 hw2 OK h8
    go_wp2_with fail
  case' neg =>
    have OK := Lib.hid hok
    clear hok
    go_wp2_with fail
    refine (next_no hR hmx hs1 OK.out).mono ?_
    rintro e W2 ⟨rfl, hR2, hb2⟩
    have hB1 := hb2.size
    have hb12 := hbel.trans (hb2.mono hs1)
    have hAt : AllAt W1.heap.size bs 0 [] (.slice none 0 0) (.bool false) W2 := by
      refine .inr ⟨rfl, ?_⟩
      show _ = _
      unfold falR
      rw [fal, if_neg OK.out]
    have h0a : ([] : List (List UInt8)).length + okN (.bool false) ≤ 0 := by simp only [okN, List.length_nil]; omega
    clear hR hbel hb2 OK
    go_wp2_with fail
  all_goals
    go_loopw [2, 5, 6] (fun v rec ok wr => ∃ a acc A3 n3 c3, v = .slice A3 n3 c3 ∧ Hid (n3 = acc.length) ∧ OwnS wr W1.heap.size (.slice A3 n3 c3) acc ∧ RD wr w.heap.size g A1 c1 bs a ∧ AllAt W1.heap.size bs a acc rec ok wr ∧ Below w.heap.size w wr ∧ W1.heap.size ≤ wr.heap.size ∧ acc.length + okN ok ≤ a) (fun _ _ ok wr => ahead g bs.length ok wr)
    case atStart => exact ⟨_, [], none, 0, 0, rfl, rfl, OwnS.nil_ _ _, hR2, hAt, hb12, hB1, h0a⟩
    case round =>
      clear hR2 hAt hb12 hB1 h0a
      obtain ⟨a, acc, A3, n3, c3, rfl, e3, hS, hRd, hAt, hbw, hBw, hac⟩ := hrel
      rcases hAt with ⟨rfl, f, s, As, ns, cs, rfl, ens, hos, hfal, hf⟩ | ⟨rfl, hfal⟩
      · have hM : ahead g bs.length (.bool true) wr = 1 + bs.length - a := by
          unfold ahead
          rw [hRd.1.cell 1]
          simp [okN, intOf]
        have HM := Lib.hid hM
        have hac' : acc.length + 1 ≤ a := hac
        have ha := hRd.2.2.2.2.2
        obtain ⟨f, rfl⟩ : ∃ k, f = k + 1 := ⟨f - 1, by omega⟩
        have hge : ∀ q, (Value.slice A3 n3 c3).ownBlock = some q → g < q := fun q hq => Nat.lt_of_lt_of_le hgB (hS.ge hq)
        have HGE := Lib.hid hge
        clear hM hac hge
        have hA := (Below.refl wr.heap.size wr).alloc (Nat.le_refl _) (.cells #[.slice As ns cs] 22)
        have hRa := hRd.below hA
        have hSa := hS.below hA
        clear hA
        by_cases hok : fok bs a
        · have OK := Lib.hid hok
          clear hok
          have hfal2 : Hid (fal bs f (fnx bs a) ((acc ++ [s]) ++ [recAt bs a]) = falR bs) := by
            rw [← hfal.out]
            show _ = _
            rw [fal, if_pos OK.out]
          have h8 : a + 8 ≤ fnx bs a := by unfold fnx; omega
          have hnl : fnx bs a ≤ bs.length := OK.out.1
          go_wp2_with (at_builtin; refine wpList_aps2 rfl _ _ rfl rfl W1.heap.size (.slice A3 n3 c3) acc wr.heap.size 1 As ns cs s rfl rfl (by simp) hSa (World.ownsRow.alloc hos _) ens.out (by omega) wr ((Below.refl _ _).alloc hBw _) (by simp; omega) ?_; intro A4 c4 n4 W4 e4 h4 hbel4 hs4 hg4; have hR4 := RD.grown hRa hg4 HGE.out; clear hg4 hSa hRa hS hRd)
          have hb4 := hbw.trans (hbel4.mono hs1)
          have hs4' := hb4.size
          refine (next_yes hR4 hmx hs4' OK.out).mono ?_
          rintro e W5 ⟨A5, n5, c5, rfl, hn5, hown5, hR5, hb5, w5, hbw5, hw5⟩
          have N5 := Lib.hid hn5
          have W5E := Lib.hid hw5
          clear hn5 hw5
          go_wp2_with fail
          go_roundw
          case rel =>
            refine ⟨fnx bs a, acc ++ [s], A4, n4, c4, rfl, e4, ?_, hR5, .inl ⟨rfl, f, recAt bs a, A5, n5, c5, rfl, N5.out, own_less hown5 hs4, hfal2, by omega⟩, hb4.trans hb5, ?_, ?_⟩
            · rw [W5E.out]; exact (h4.below hbw5).set_far hgB _
            · rw [W5E.out]; have := hbw5.size; simp; omega
            · rw [List.length_append]; simp [okN]; omega
          case measure =>
            rw [HM.out]
            unfold ahead
            rw [hR5.1.cell 1]
            simp [okN, intOf]; omega
        · have OK := Lib.hid hok
          clear hok
          have hfal2 : Hid (falR bs = (acc ++ [s], a)) := by
            rw [← hfal.out]
            show _ = _
            rw [fal, if_neg OK.out]
          go_wp2_with (at_builtin; refine wpList_aps2 rfl _ _ rfl rfl W1.heap.size (.slice A3 n3 c3) acc wr.heap.size 1 As ns cs s rfl rfl (by simp) hSa (World.ownsRow.alloc hos _) ens.out (by omega) wr ((Below.refl _ _).alloc hBw _) (by simp; omega) ?_; intro A4 c4 n4 W4 e4 h4 hbel4 hs4 hg4; have hR4 := RD.grown hRa hg4 HGE.out; clear hg4 hSa hRa hS hRd)
          have hb4 := hbw.trans (hbel4.mono hs1)
          have hs4' := hb4.size
          refine (next_no hR4 hmx hs4' OK.out).mono ?_
          rintro e W5 ⟨rfl, hR5, hb5⟩
          go_wp2_with fail
          go_roundw
          case rel =>
            refine ⟨a, acc ++ [s], A4, n4, c4, rfl, e4, h4.below hb5, hR5, .inr ⟨rfl, hfal2⟩, hb4.trans (hb5.mono hs4'), Nat.le_trans hs4 hb5.size, ?_⟩
            rw [List.length_append]; simp [okN]; omega
          case measure =>
            rw [HM.out]
            unfold ahead
            simp [okN]; omega
      · have hF := hfal.out
        go_wp2_with fail
        refine (at_any hRd).mono ?_
        rintro e W3 ⟨rfl, rfl⟩
        go_wp2_with fail
        go_ret2
        rw [hF]
        refine ⟨A3, n3, c3, rfl, e3.out, ?_, hbw⟩
        exact hS.less hs1
end Go.Proofs.Ytnnhkanjneecjaa
