import Derived.Test.YtmddbpkojboogaaVecD
namespace Go.Proofs.Ytmddbpkojboogaa
open Go.RowKit
/-! vector: Join. -/
def gtN (o n : Nat) : Bool := decide (o < n)
def Z6 : List Nat := [0, 0, 0, 0, 0, 0]
/-- the first j places turned. -/
def mixV (new o : List Nat) (j : Nat) : List Nat := new.take j ++ o.drop j
theorem mixV_len {new o : List Nat} (h1 : new.length = 6) (h2 : o.length = 6) (j : Nat) (hj : j ≤ 6) : (mixV new o j).length = 6 := by
  unfold mixV; rw [List.length_append, List.length_take, List.length_drop]; omega
theorem mixV_zero (new o : List Nat) : mixV new o 0 = o := by simp [mixV]
theorem mixV_all {new o : List Nat} (h1 : new.length = 6) (h2 : o.length = 6) : mixV new o 6 = new := by
  unfold mixV
  rw [List.take_of_length_le (by omega), List.drop_of_length_le (by omega), List.append_nil]
theorem mixV_at {new o : List Nat} (h1 : new.length = 6) (h2 : o.length = 6) (j : Nat) (hj : j < 6) : (mixV new o j)[j]? = some (o[j]'(by omega)) := by
  unfold mixV
  rw [List.getElem?_append_right (by rw [List.length_take]; omega), List.length_take, show j - min j new.length = 0 by omega, List.getElem?_drop, Nat.add_zero, List.getElem?_eq_getElem]
theorem mixV_set {new o : List Nat} (h1 : new.length = 6) (h2 : o.length = 6) (j : Nat) (hj : j < 6) : (mixV new o j).set j (new[j]'(by omega)) = mixV new o (j + 1) := by
  unfold mixV
  have hl : (new.take j).length = j := by rw [List.length_take]; omega
  rw [List.set_append, if_neg (by omega), hl, Nat.sub_self, List.drop_eq_getElem_cons (by omega), List.set_cons_zero, List.take_succ_eq_append_getElem (by omega), List.append_assoc]
  rfl
theorem mixV_same {new o : List Nat} (h1 : new.length = 6) (h2 : o.length = 6) (j : Nat) (hj : j < 6) (he : new[j]'(by omega) = o[j]'(by omega)) : mixV new o j = mixV new o (j + 1) := by
  rw [← mixV_set h1 h2 j hj]
  have := mixV_at h1 h2 j hj
  rw [he]
  apply List.ext_getElem?
  intro i
  rw [List.getElem?_set]
  by_cases hi : j = i
  · subst hi
    rw [if_pos rfl, this]
    simp [mixV_len h1 h2 j (by omega), hj]
  · rw [if_neg hi]
/-- what the first k vectors tell. -/
def outK (l : List (List Nat)) (k : Nat) : List Nat := chosenV gtN (l.take k)
theorem outK_len (l : List (List Nat)) (hs : ∀ v ∈ l, v.length = 6) (k : Nat) : (outK l k).length = 6 := chosenV_len gtN _ (fun v hv => hs v (List.mem_of_mem_take hv))
set_option maxRecDepth 100000 in
theorem chosen_join (A : Option Addr) (n c : Nat) (l : List (List Nat)) (w : World) (hl : Vecs w w.heap.size A l) (hs : ∀ v ∈ l, v.length = 6) (hn : n = l.length) (hmx : l.length ≤ 1099511627776) :
    Calls Try.prog 35 #[.slice A n c, .func (.func 36) #[] #[]] w fun e w' => e = .returned (.agg (vecA (chosenV gtN l))) ∧ Below w.heap.size w w' := by
  subst hn
  have hb2 := ((Below.refl w.heap.size w).alloc (Nat.le_refl _) (.cells (vecA Z6) 24)).alloc (by simp) (.cells (vecA Z6) 24)
  have g1 : Blk ((w.alloc (.cells (vecA Z6) 24)).alloc (.cells (vecA Z6) 24)) w.heap.size 24 (vecA Z6) := heap_alloc2_old w (.cells (vecA Z6) 24) (.cells (vecA Z6) 24)
  have g2 : Blk ((w.alloc (.cells (vecA Z6) 24)).alloc (.cells (vecA Z6) 24)) (w.heap.size + 1) 24 (vecA Z6) := heap_alloc2_new w (.cells (vecA Z6) 24) (.cells (vecA Z6) 24)
  have HS := Lib.hid hs
  clear hs
  go_enter Try.func35, Try.ntmps35
  go_wp2_with fail
  go_loopw [12] (fun i wr => ∃ k : Nat, k ≤ l.length ∧ i = .int .i64 (k : Int) ∧ Blk wr w.heap.size 24 (vecA Z6) ∧ Blk wr (w.heap.size + 1) 24 (vecA (outK l k)) ∧ Below w.heap.size w wr) (fun i _ => l.length - (intOf i).toNat)
  case atStart => exact ⟨0, by omega, rfl, g1, g2, hb2⟩
  case round =>
    clear g1 g2 hb2
    obtain ⟨k, hk, rfl, hR, hO, hbw⟩ := hrel
    have hsz := hbw.size
    by_cases hlt : k < l.length
    · obtain ⟨b, off, rfl, hB, hc⟩ := ((hl.below hbw).more hsz) (by omega)
      obtain ⟨h6, hrng⟩ := hc k l[k] (List.getElem?_eq_getElem hlt)
      have hld := vecs_load h6 hrng
      have hadd : (⟨b, off, none⟩ : Addr).add (k * 6) = ⟨b, off + k * 6, none⟩ := Addr.add_mid b off (k * 6)
      have hnewS : ∀ (j x y : Nat), (outK l k)[j]? = some x → l[k][j]? = some y → (outK l (k + 1))[j]? = some (if k = 0 then y else pick gtN x y) := by
        intro j x y hx hy
        have e : l.take (k + 1) = l.take k ++ [l[k]] := List.take_succ_eq_append_getElem hlt
        by_cases h0 : k = 0
        · subst h0
          rw [if_pos rfl]
          unfold outK
          rw [e, List.take_zero, List.nil_append, chosenV_one]
          exact hy
        · rw [if_neg h0]
          unfold outK at hx ⊢
          rw [e, chosenV_snoc _ _ _ (by intro h; have := congrArg List.length h; simp only [List.length_take, List.length_nil] at this; omega)]
          rw [List.getElem?_zipWith, hx, hy]
      generalize l[k] = v at h6 hrng hld hnewS
      have hinf := infoV_of v h6
      have hinl : (Try.prog.info? 24).map (·.size) = some (vecL v).length := by rw [show (vecL v).length = 6 by simp [vecL, h6]]; exact infoV
      have hsz6 : (vecA Z6).size = (vecA v).size := by rw [vecA_size, vecA_size, h6]; rfl
      have hone := vecA_one v
      have SZ := Lib.hid hsz6
      have ONE := Lib.hid hone
      have hrow := (Blk.new wr 24 (vecA Z6)).row (vecA v)
      clear hsz6 hone hld
      go_wp2_with (first
        | (refine wpList_load_mid rfl 24 _ rfl b (off + k * 6) rfl (vecL v) _ hrng Try.underlying24 rfl hinl ?_)
        | (refine wpList_store_row rfl 24 _ _ rfl _ (vecA v) rfl rfl 24 _ (heap_alloc_new wr _) hinf SZ.out ONE.out ?_)
        | (refine wpList_load_row rfl 24 _ rfl _ rfl 24 (vecA v) (0, 0) _ hrow Try.underlying24 rfl hinf ?_))
      have hba := hbw.alloc hsz (.cells (vecA Z6) 24)
      have hb0 := below_setRow hba hsz (vecA v)
      have hR0 := (hR.alloc (.cells (vecA Z6) 24)).rowFar (k := wr.heap.size) (by have := hR.lt; omega) (vecA v)
      have hO0 := (hO.alloc (.cells (vecA Z6) 24)).rowFar (k := wr.heap.size) (by have := hO.lt; omega) (vecA v)
      have ho6 := outK_len l HS.out k
      obtain ⟨new, hnE, hnew6, NEW⟩ : ∃ new, Hid (new = outK l (k + 1)) ∧ new.length = 6 ∧ Hid (∀ (j x y : Nat), (outK l k)[j]? = some x → v[j]? = some y → new[j]? = some (if k = 0 then y else pick gtN x y)) := ⟨_, rfl, outK_len l HS.out (k + 1), hnewS⟩
      generalize outK l k = o at hO0 ho6 NEW
      clear hR hO hrow hba hinf hinl SZ ONE
      go_loopw [18] (fun i wr2 => ∃ j : Nat, j ≤ 6 ∧ i = .int .i64 (j : Int) ∧ Blk wr2 w.heap.size 24 (vecA Z6) ∧ Blk wr2 (w.heap.size + 1) 24 (vecA (mixV new o j)) ∧ Below w.heap.size w wr2) (fun i _ => 6 - (intOf i).toNat)
      case atStart => exact ⟨0, by omega, rfl, hR0, by rw [mixV_zero]; exact hO0, hb0⟩
      case round =>
        clear hR0 hO0 hb0
        obtain ⟨j, hj, rfl, hR2, hO2, hbw2⟩ := hrel
        by_cases hlt2 : j < 6
        · have hix := vec_index v h6 j hlt2 wr
          have hml := mixV_len hnew6 ho6 j (by omega)
          have hcj := (hO2.cell j).trans (vecA_at (mixV new o j) j (by rw [hml]; exact hlt2))
          have hfj := hO2.frozen j
          have hmj := mixV_at hnew6 ho6 j hlt2
          rw [List.getElem?_eq_getElem (by rw [hml]; exact hlt2)] at hmj
          injection hmj with hmj
          rw [hmj] at hcj
          have hz := NEW.out j _ _ (List.getElem?_eq_getElem (by omega : j < o.length)) (List.getElem?_eq_getElem (by omega : j < v.length))
          rw [List.getElem?_eq_getElem (by omega : j < new.length)] at hz
          injection hz with hz
          have hst := hO2.set_ j (.int .u64 ((new[j]'(by omega) : Nat) : Int))
          rw [vecA_set, mixV_set hnew6 ho6 j hlt2] at hst
          have hsame := mixV_same hnew6 ho6 j hlt2
          have hR3 := hR2.far (p := ⟨w.heap.size + 1, j, none⟩) (by simp) (.int .u64 ((new[j]'(by omega) : Nat) : Int))
          have hb3 := hbw2.setCell (p := ⟨w.heap.size + 1, j, none⟩) (by simp) (.int .u64 ((new[j]'(by omega) : Nat) : Int))
          generalize o[j]'(by omega) = x at hcj hz hsame
          generalize v[j]'(by omega) = y at hix hz
          generalize new[j]'(by omega) = z at hz hst hR3 hb3 hsame
          clear hmj hml
          by_cases hk0 : k = 0
          · rw [if_pos hk0] at hz
            subst hz
            have hk0' : (k : Int) = 0 := by omega
            clear hk0
            generalize (z : Int) = Y at hix hst hR3 hb3
            go_wp2_with fail
            go_roundw
            case rel => exact ⟨j + 1, by omega, by go_num, hR3, hst, hb3⟩
            case measure => simp [intOf]; omega
          · rw [if_neg hk0] at hz
            have hk0' : ¬ (k : Int) = 0 := by omega
            clear hk0
            by_cases hxy : x < y
            · have hzy : z = y := by rw [hz]; unfold pick gtN; rw [decide_eq_true hxy, if_pos rfl]
              subst hzy
              have hd : decide ((x : Int) < (z : Int)) = true := decide_eq_true (by omega)
              have t1 := ahead_join (x : Int) (z : Int) wr
              rw [hd] at t1
              have T1 := Lib.hid t1
              clear hz hxy hsame t1 hd
              generalize (z : Int) = Y at hix hst hR3 hb3 T1
              generalize (x : Int) = X at hcj T1
              go_wp2_with (go_at_call 36; refine T1.out.mono ?_; rintro e w9 ⟨rfl, rfl⟩)
              go_roundw
              case rel => exact ⟨j + 1, by omega, by go_num, hR3, hst, hb3⟩
              case measure => simp [intOf]; omega
            · have hzx : z = x := by rw [hz]; unfold pick gtN; rw [decide_eq_false hxy]; rfl
              have hO3 := hO2
              rw [hsame hzx] at hO3
              have hd : decide ((x : Int) < (y : Int)) = false := decide_eq_false (by omega)
              have t1 := ahead_join (x : Int) (y : Int) wr
              rw [hd] at t1
              have T1 := Lib.hid t1
              clear hz hzx hxy hsame t1 hd hst hR3 hb3
              generalize (y : Int) = Y at hix T1
              generalize (x : Int) = X at hcj T1
              go_wp2_with (go_at_call 36; refine T1.out.mono ?_; rintro e w9 ⟨rfl, rfl⟩)
              go_roundw
              case rel => exact ⟨j + 1, by omega, by go_num, hR2, hO3, hbw2⟩
              case measure => simp [intOf]; omega
        · obtain rfl : j = 6 := by omega
          rw [mixV_all hnew6 ho6, hnE.out] at hO2
          go_wp2_with fail
          go_roundw
          case rel => exact ⟨k + 1, by omega, by go_num, hR2, hO2, hbw2⟩
          case measure => simp [intOf]; omega
    · obtain rfl : k = l.length := by omega
      rw [show outK l l.length = chosenV gtN l by unfold outK; rw [List.take_length]] at hO
      have h6 := chosenV_len gtN l HS.out
      have hinf := infoV_of _ h6
      have SZ : Hid ((vecA Z6).size = (vecA (chosenV gtN l)).size) := by show _ = _; rw [vecA_size, vecA_size, h6]; rfl
      have ONE := Lib.hid (vecA_one (chosenV gtN l))
      have hfin := hR.row (vecA (chosenV gtN l))
      have hbf := below_setRow hbw (Nat.le_refl _) (vecA (chosenV gtN l))
      clear h6
      generalize hV : chosenV gtN l = V at hO hinf SZ ONE hfin hbf
      have HV := Lib.hid hV
      clear hV
      go_wp2_with (first
        | (refine wpList_load_row rfl 24 _ rfl _ rfl 24 (vecA V) (0, 0) _ hO Try.underlying24 rfl hinf ?_)
        | (refine wpList_store_row rfl 24 _ _ rfl _ (vecA V) rfl rfl 24 _ hR hinf SZ.out ONE.out ?_))
      exact bodyPost_ret (results_cell_row Try.results35 _ _ _ 24 (vecA V) (0, 0) _ rfl hfin Try.underlying24 rfl hinf) rfl ⟨by rw [HV.out], hbf⟩
end Go.Proofs.Ytmddbpkojboogaa
