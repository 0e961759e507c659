import Derived.Test.YtjihbjjekhncaaaEvTu
import Derived.Maps.AppendAt
namespace Go.Proofs.Ytjihbjjekhncaaa
open Go.RowKit
/-! slices of events that a call appends to; event: All. -/
def OwnE (w : World) (base : Nat) (v : Value) (l : List Ev) : Prop := w.ownsRow base 26 14 v l.length (l.flatMap evL)
theorem OwnE.nil_ (w : World) (base : Nat) : OwnE w base (.slice none 0 0) [] := World.ownsRow_nil w base 26 14
theorem evL_one (e : Ev) : ∀ u ∈ evL e, u.oneCell' = true := by
  have := evA_one e
  unfold evA at this
  rw [List.all_toArray, List.all_eq_true] at this
  exact this
theorem eflat_at : ∀ (l : List Ev), (∀ v ∈ l, v.d.length = 6) → ∀ (i : Nat) (e : Ev) (r : Nat), l[i]? = some e → r < 14 → (l.flatMap evL)[i * 14 + r]? = (evL e)[r]?
  | [], _, i, L, r, h, _ => by simp at h
  | a :: l, hs, 0, L, r, h, hr => by
    injection h with h; subst h
    rw [List.flatMap_cons, List.getElem?_append_left (by rw [evL_len (hs a (by simp))]; omega), Nat.zero_mul, Nat.zero_add]
  | a :: l, hs, i + 1, L, r, h, hr => by
    have ha : (evL a).length = 14 := evL_len (hs a (by simp))
    rw [List.flatMap_cons, List.getElem?_append_right (by omega), ha, show (i + 1) * 14 + r - 14 = i * 14 + r by omega]
    exact eflat_at l (fun v hv => hs v (by simp [hv])) i L r (by simpa using h) hr
theorem OwnE.open_ {w : World} {base : Nat} {v : Value} {l : List Ev} (h : OwnE w base v l) (hs : ∀ v ∈ l, v.d.length = 6) : ∃ A c, v = .slice A l.length c ∧ Evs w w.heap.size A l ∧ l.length ≤ c ∧ c ≤ maxLen := by
  rcases h.2 with ⟨hv, hn⟩ | ⟨g, cap, cur, hv, hg, hh, hc, hm, hz, ht⟩
  · exact ⟨none, 0, by rw [hv, hn], fun h0 => by omega, by omega, by decide⟩
  · refine ⟨some ⟨g, 0, none⟩, cap, hv, fun _ => ⟨g, 0, rfl, ?_, fun i e hi j u hu => ?_⟩, by omega, hm⟩
    · rcases Nat.lt_or_ge g w.heap.size with h' | h'
      · exact h'
      · rw [Array.getElem?_eq_none h'] at hh; cases hh
    · have hj : j < 14 := by
        have h6 := evL_len (hs e (List.mem_of_getElem? hi))
        rcases Nat.lt_or_ge j (evL e).length with h' | h'
        · rw [h6] at h'; exact h'
        · rw [List.getElem?_eq_none h'] at hu; cases hu
      rw [Nat.zero_add, cell_of_row w g (i * 14 + j) cur 26 (0, 0) hh]
      rw [← eflat_at l hs i e j hi hj, ← ht, List.getElem?_take] at hu
      split at hu
      · simpa using hu
      · cases hu
theorem OwnE.below {w w' : World} {base : Nat} {v : Value} {l : List Ev} (h : OwnE w base v l) (hb : Below w.heap.size w w') : OwnE w' base v l := by
  refine ⟨h.1, ?_⟩
  rcases h.2 with h0 | ⟨g, cap, cur, hv, hg, hh, hr⟩
  · exact .inl h0
  · refine .inr ⟨g, cap, cur, hv, hg, ?_, hr⟩
    have hlt : g < w.heap.size := by
      rcases Nat.lt_or_ge g w.heap.size with h' | h'
      · exact h'
      · rw [Array.getElem?_eq_none h'] at hh; cases hh
    rw [hb.block g hlt]; exact hh
theorem infoEF : (Try.prog.info? 26).map (fun i => (i.zero, i.size, i.bytes)) = some (some (.agg (evA E0)), 14, 112) := by kernel_rfl
/-- one event more, out of a block made for it. -/
theorem run_appE (w : World) (base : Nat) (v : Value) (l : List Ev) (hown : OwnE w base v l) (e : Ev) (he : e.d.length = 6) (g : Nat) (hB : Blk w g 26 (evA e)) (c : Nat)
    (hlen : l.length + 1 ≤ 1099511627776) (hbase : base ≤ w.heap.size) (ty : TypeId) :
    ∃ v' w', (Builtin.append_ #[32, 32] ty #[v, .slice (some ⟨g, 0, none⟩) 1 c]).run Try.prog w = .ok v' w' ∧ OwnE w' base v' (l ++ [e]) ∧ w.grownBy w' v.ownBlock := by
  obtain ⟨i0, hi, hz0, hz1, hz2⟩ := info_parts infoEF
  obtain ⟨v', w', hrun, h2, h3, _, _⟩ := run_append_own_at (P := Try.prog) w base 32 ty 26 i0 (.agg (evA E0)) 14 112 Try.underlying32 hi hz0 hz1 hz2 rfl (by omega) v l.length (l.flatMap evL) hown ⟨g, 0, none⟩ 1 c (evL e)
    (by rw [evL_len he]) (fun j u hu => by rw [Addr.add_mid, Nat.zero_add, hB.cell]; simpa [evA] using hu) (evL_one e) (by unfold maxLen; omega) (by omega) hbase
  exact ⟨v', w', hrun, by unfold OwnE; rw [List.flatMap_append, List.length_append]; simpa using h2, h3⟩
theorem run_buildSlE1 {W : World} {e : Ev} (he : e.d.length = 6) :
    (Instr.buildSlice 32 1 #[(0, .agg (evA e))]).run Try.prog W = .ok (.slice (some ⟨W.heap.size, 0, none⟩) 1 1) (W.alloc (.cells (evA e) 26)) := by
  obtain ⟨o, s, d, k, n, t, a, r, f⟩ := e
  obtain ⟨x0, x1, x2, x3, x4, x5, rfl⟩ := six he
  kernel_rfl
def buildSlE (parts : Array (Nat × Value)) : Sem Value := Instr.buildSlice 32 1 parts
theorem exec_buildSlE (ρ : Operand → Value) (dst : Option Tmp) (parts : Array (Nat × Operand)) (ty : TypeId) (pos : String) (after : Array Edge) (guard : Option (Nat × Bool)) :
    execOp ρ ⟨dst, .buildSlice 32 1 parts, ty, pos, after, guard⟩ = (do pure (.value (← buildSlE (parts.map fun x => (x.1, ρ x.2))))) := rfl
/-- append of one event onto the call's own. -/
theorem wpList_appE {ops : Array Oper} {rest : List Oper} {o : Oper} {a : Act} {w : World} {Q : Exit → Act → World → Prop} (hw : Region.wanted o (yielded ops a.tmps) = true) (s x : Operand) (ho : o.op = .call { callee := .builtin .append, args := #[s, x], argTypes := #[32, 32] })
    (base : Nat) (v : Value) (l : List Ev) (e : Ev) (he : e.d.length = 6) (g c : Nat) (hs : a.eval s = v) (hx : a.eval x = .slice (some ⟨g, 0, none⟩) 1 c) (hB : Blk w g 26 (evA e)) (hown : OwnE w base v l) (hall : ∀ u ∈ l, u.d.length = 6)
    (hlen : l.length + 1 ≤ 1099511627776) (w0 : World) (hbel : Below base w0 w) (hbase : base ≤ w.heap.size) (n : Nat) (hn : n = l.length + 1)
    (h : ∀ A' c' w', OwnE w' base (.slice A' n c') (l ++ [e]) → Below base w0 w' → base ≤ w'.heap.size → wpList Try.prog ops Q rest (a.put o.dst (.slice A' n c')) w') : wpList Try.prog ops Q (o :: rest) a w := by
  subst hn
  obtain ⟨v', w', hr, h2, h3⟩ := run_appE w base v l hown e he g hB c hlen hbase o.type
  refine wpList_wanted hw ?_
  unfold Oper.wp execOp
  simp only [ho, resolve, invoke, builtin, Sem.run_bind, Sem.run_pure, Result.andThen_ok, List.map_toArray, List.map_cons, List.map_nil, hs, hx, hr]
  have hall2 : ∀ u ∈ l ++ [e], u.d.length = 6 := fun u hu => by
    rcases List.mem_append.1 hu with h | h
    · exact hall u h
    · rw [List.mem_singleton.1 h]; exact he
  obtain ⟨A', c', rfl, _, _⟩ := h2.open_ hall2
  rw [List.length_append, List.length_singleton] at h2 ⊢
  have hrow : ∀ k, v.ownBlock = some k → base ≤ k := by
    intro k hk
    rcases hown.2 with ⟨rfl, _⟩ | ⟨g', cap, cur, rfl, hg, _⟩
    · cases hk
    · simp [Value.ownBlock] at hk; omega
  exact h A' c' w' h2 (hbel.grown h3 hbase hrow) (Nat.le_trans hbase h3.size)
/-- the events of which these are the bytes. -/
def allE (bs : List UInt8) : Option (List Ev) :=
  if bs.length = 0 then some []
  else if bs.length < 91 then none
  else if mayE (ofB (bs.take 91)) = true then (allE (bs.drop 91)).map (ofB (bs.take 91) :: ·) else none
termination_by bs.length
decreasing_by simp; omega
theorem allE_nil : allE [] = some [] := by rw [allE]; simp
theorem allE_short {bs : List UInt8} (h : ¬ bs.length = 0) (h2 : bs.length < 91) : allE bs = none := by rw [allE, if_neg h, if_pos h2]
theorem allE_no {bs : List UInt8} (h : 91 ≤ bs.length) (hm : mayE (ofB (bs.take 91)) = false) : allE bs = none := by rw [allE, if_neg (by omega), if_neg (by omega), if_neg (by rw [hm]; simp)]
theorem allE_yes {bs : List UInt8} (h : 91 ≤ bs.length) (hm : mayE (ofB (bs.take 91)) = true) : allE bs = (allE (bs.drop 91)).map (ofB (bs.take 91) :: ·) := by
  conv => lhs; rw [allE, if_neg (by omega), if_neg (by omega), if_pos hm]
def evsA (bs : List UInt8) : List Ev := (allE bs).getD []
def errA (bs : List UInt8) : Int := if allE bs = none then 5 else 0
theorem allE_ok : ∀ (n : Nat) (bs : List UInt8) (l : List Ev), bs.length ≤ n → allE bs = some l → (∀ e ∈ l, e.ok ∧ mayE e = true) ∧ bs = l.flatMap evB
  | n, bs, l, hn, h => by
    by_cases h0 : bs.length = 0
    · obtain rfl := List.eq_nil_of_length_eq_zero h0
      rw [allE_nil] at h; injection h with h; subst h
      exact ⟨(fun e he => by cases he), rfl⟩
    by_cases h1 : bs.length < 91
    · rw [allE_short h0 h1] at h; cases h
    cases hm : mayE (ofB (bs.take 91))
    · rw [allE_no (by omega) hm] at h; cases h
    · rw [allE_yes (by omega) hm] at h
      cases hr : allE (bs.drop 91) with
      | none => rw [hr] at h; cases h
      | some r =>
        rw [hr] at h; injection h with h; subst h
        have hl : (bs.take 91).length = 91 := by simp; omega
        match n with
        | 0 => omega
        | n + 1 =>
          obtain ⟨i1, i2⟩ := allE_ok n (bs.drop 91) r (by simp; omega) hr
          refine ⟨fun e he => ?_, ?_⟩
          · rcases List.mem_cons.1 he with rfl | he
            · exact ⟨ofB_ok _ hl, hm⟩
            · exact i1 e he
          · rw [List.flatMap_cons, evB_ofB _ hl hm, ← i2, List.take_append_drop]
theorem evsA_ok (bs : List UInt8) : ∀ e ∈ evsA bs, e.ok ∧ mayE e = true := by
  unfold evsA
  cases h : allE bs with
  | none => intro e he; cases he
  | some l => exact (allE_ok bs.length bs l (Nat.le_refl _) h).1
theorem allE_flat : ∀ (l : List Ev), (∀ e ∈ l, e.ok ∧ mayE e = true) → allE (l.flatMap evB) = some l
  | [], _ => allE_nil
  | e :: l, h => by
    obtain ⟨h1, h2⟩ := h e (by simp)
    have hl := evB_len h1.d6
    have ht : ((e :: l).flatMap evB).take 91 = evB e := by rw [List.flatMap_cons]; exact take_app _ _ 91 hl
    have hd : ((e :: l).flatMap evB).drop 91 = l.flatMap evB := by rw [List.flatMap_cons]; exact drop_app _ _ 91 hl
    rw [allE_yes (by rw [List.flatMap_cons, List.length_append]; omega) (by rw [ht, ofB_evB h1 h2]; exact h2), ht, hd, ofB_evB h1 h2, allE_flat l (fun x hx => h x (by simp [hx]))]
    rfl
attribute [local go_sem ↓] exec_loadE exec_storeE exec_allocE exec_buildE exec_buildSlE
set_option maxRecDepth 100000 in
set_option maxHeartbeats 1000000 in
theorem eall_any (A : Option Addr) (m c : Nat) (bs : List UInt8) (w : World) (hb : Bytes w w.heap.size A bs) (hm : m = bs.length) (hmc : m ≤ c) (hc : c ≤ maxLen) (hmx : m ≤ 1099511627000) : Calls Try.prog 18 #[.slice A m c] w fun x w' =>
    ∃ A' n' c', x = .returned (.tuple #[.slice A' n' c', .int .i64 (errA bs)]) ∧ n' = (evsA bs).length ∧ Evs w' w'.heap.size A' (evsA bs) ∧ n' ≤ c' ∧ c' ≤ maxLen ∧ Below w.heap.size w w' := by
  have HB := Lib.hid hb
  have HM := Lib.hid hm
  have HC := Lib.hid (And.intro hmc hc)
  have aE := run_allocE
  have b1 : ∀ (e : Ev) (W : World), e.d.length = 6 → (buildSlE #[(0, .agg (evA e))]).run Try.prog W = .ok (.slice (some ⟨W.heap.size, 0, none⟩) 1 1) (W.alloc (.cells (evA e) 26)) := fun e W h => run_buildSlE1 h
  have B1 := Lib.hid b1
  clear b1 hb hm hmc hc
  go_enter Try.func18, Try.ntmps18
  go_wp2_with fail
  go_loopw [4, 5] (fun v i wr => ∃ (j : Nat) (l : List Ev) (A' : Option Addr) (c' : Nat), 91 * j ≤ m ∧ l.length = j ∧ i = .int .i64 ((91 * j : Nat) : Int) ∧ v = .slice A' j c' ∧ OwnE wr w.heap.size (.slice A' j c') l ∧ (∀ e ∈ l, e.d.length = 6) ∧ Below w.heap.size w wr ∧ allE bs = (allE (bs.drop (91 * j))).map (l ++ ·)) (fun _ i _ => m - (intOf i).toNat)
  case atStart => exact ⟨0, [], none, 0, by omega, rfl, rfl, rfl, OwnE.nil_ _ _, (fun e he => by cases he), Below.refl _ _, by simp⟩
  case round =>
    obtain ⟨j, l, A', c', hj, hlj, rfl, rfl, hown, hall, hbw, heq⟩ := hrel
    by_cases hlt : 91 * j < m
    · have hbr := (HB.out.below hbw).more hbw.size
      have TK := Lib.hid (etake_any A m c bs ((91 * j : Nat) : Int) wr hbr HM.out HC.out.1 HC.out.2)
      obtain ⟨E, hE⟩ : ∃ E, takeE bs ((91 * j : Nat) : Int) = E := ⟨_, rfl⟩
      rw [hE] at TK
      obtain ⟨q, hq⟩ : ∃ q, q = 91 * j := ⟨_, rfl⟩
      rw [← hq] at hlt hj heq hE TK ⊢
      have hq0 : (0 : Int) ≤ (q : Int) := by omega
      have hqm : (q : Int) < (m : Int) := by omega
      have CASES : (E = (E0, 0, 5) ∧ allE bs = none) ∨ (∃ e : Ev, e.ok ∧ E = (e, (q : Int) + 91, 0) ∧ q + 91 ≤ m ∧ allE bs = (allE (bs.drop (q + 91))).map ((l ++ [e]) ++ ·)) := by
        have hm := HM.out
        by_cases h91 : q + 91 ≤ m
        · cases hmy : mayE (ofB ((bs.drop q).take 91))
          · refine .inl ⟨by rw [← hE]; exact takeE_no (by omega) hmy, ?_⟩
            rw [heq, allE_no (by simp; omega) hmy]; rfl
          · refine .inr ⟨ofB ((bs.drop q).take 91), ofB_ok _ (by rw [List.length_take, List.length_drop]; omega), by rw [← hE]; exact takeE_ok (by omega) hmy, h91, ?_⟩
            rw [heq, allE_yes (by simp; omega) hmy, List.drop_drop, Option.map_map]
            congr 1
            funext r
            simp
        · refine .inl ⟨by rw [← hE]; exact takeE_short (by omega) (by omega), ?_⟩
          rw [heq, allE_short (by simp; omega) (by simp; omega)]; rfl
      have OWN := Lib.hid hown
      have ALL := Lib.hid hall
      have HBW := Lib.hid hbw
      have HLJ := Lib.hid hlj
      have HQ := Lib.hid hq
      clear heq hE hown hall hbw hlj hq hbr
      rcases CASES with ⟨rfl, hno⟩ | ⟨e, hok, rfl, h91, hyes⟩
      · have HNO := Lib.hid hno
        have s0 := run_storeE_new E0_ok.d6
        clear hno
        go_wp2_with fail
        refine TK.out.mono ?_
        rintro _ w2 ⟨rfl, hb⟩
        have s0' := s0 w2
        have VF := HBW.out.trans ((hb.mono HBW.out.size).trans ((Below.refl _ _).alloc (Nat.le_trans HBW.out.size hb.size) (.cells (evA E0) 26)))
        clear hb s0
        go_wp2_with fail
        go_ret2
        exact ⟨none, 0, 0, by unfold errA; rw [HNO.out]; rfl, by unfold evsA; rw [HNO.out]; rfl, by unfold evsA; rw [HNO.out]; exact fun h => absurd h (by simp), by omega, by decide, VF⟩
      · have HYES := Lib.hid hyes
        have HOK := Lib.hid hok
        have s0 := run_storeE_new hok.d6
        clear hyes hok
        go_wp2_with fail
        refine TK.out.mono ?_
        rintro _ w2 ⟨rfl, hb⟩
        have s0' := s0 w2
        have hbw2 := HBW.out.trans (hb.mono HBW.out.size)
        have own2 := OWN.out.below hb
        have l2 := (EB.new w2 HOK.out.d6).load
        have bS := B1.out e (w2.alloc (.cells (evA e) 26)) HOK.out.d6
        have own3 : OwnE ((w2.alloc (.cells (evA e) 26)).alloc (.cells (evA e) 26)) w.heap.size (.slice A' j c') l := own2.below (((Below.refl _ _).alloc (Nat.le_refl _) _).alloc (by simp) _)
        have hbw3 := (hbw2.alloc hbw2.size (.cells (evA e) 26)).alloc (by have := hbw2.size; simp; omega) (.cells (evA e) 26)
        have hlt3 : l.length + 1 ≤ 1099511627776 := by have := HLJ.out; have := HQ.out; omega
        have hsz : w.heap.size ≤ ((w2.alloc (.cells (evA e) 26)).alloc (.cells (evA e) 26)).heap.size := hbw3.size
        rw [show (w2.alloc (.cells (evA e) 26)).heap.size = w2.heap.size + 1 by simp] at bS
        have bk : Blk ((w2.alloc (.cells (evA e) 26)).alloc (.cells (evA e) 26)) (w2.heap.size + 1) 26 (evA e) := by
          have := Blk.new (w2.alloc (.cells (evA e) 26)) 26 (evA e)
          rwa [show (w2.alloc (.cells (evA e) 26)).heap.size = w2.heap.size + 1 by simp] at this
        clear hb s0 own2 hbw2
        go_wp2_with (refine wpList_appE rfl _ _ rfl w.heap.size _ l e HOK.out.d6 (w2.heap.size + 1) 1 rfl rfl bk own3 ALL.out hlt3 w hbw3 hsz (j + 1) (by rw [HLJ.out]) ?_; intro A2 c2 w4 own4 hbw4 hsz4; clear own3 hbw3 hlt3 bk l2 bS s0' hsz)
        go_roundw
        case rel =>
          refine ⟨j + 1, l ++ [e], A2, c2, by have := HQ.out; omega, by rw [List.length_append, HLJ.out]; rfl, ?_, rfl, own4, fun x hx => ?_, hbw4, ?_⟩
          · have := HQ.out
            congr 1; omega
          · rcases List.mem_append.1 hx with h | h
            · exact ALL.out x h
            · rw [List.mem_singleton.1 h]; exact HOK.out.d6
          · have := HQ.out
            rw [show 91 * (j + 1) = q + 91 by omega]; exact HYES.out
        case measure => simp [intOf]; omega
    · have hjm : 91 * j = m := by omega
      have hE : allE bs = some l := by rw [heq, hjm, HM.out, List.drop_length, allE_nil]; simp
      obtain ⟨A2, c2, hv, hev, hlc, hcm⟩ := hown.open_ hall
      injection hv with hv1 hv2 hv3
      subst hv1 hv3
      have HE := Lib.hid hE
      have VF := Lib.hid hbw
      have EV := Lib.hid hev
      have HLJ := Lib.hid hlj
      have LC := Lib.hid (And.intro hlc hcm)
      clear heq hE hown hall hbw hev hlj hv2 hlc hcm
      rw [hjm]
      go_wp2_with fail
      go_ret2
      exact ⟨A', j, c', by unfold errA; rw [HE.out]; simp, by unfold evsA; rw [HE.out]; exact HLJ.out.symm, by unfold evsA; rw [HE.out]; exact EV.out, by rw [← HLJ.out]; exact LC.out.1, LC.out.2, VF.out⟩
end Go.Proofs.Ytjihbjjekhncaaa
