import Derived.Test.YtbmifdkglpgbeaaGreatTb
import Derived.Test.YtbmifdkglpgbeaaGreatTa
import Derived.Test.YtbmifdkglpgbeaaGreatRei
set_option linter.unusedVariables false
set_option linter.unusedSimpArgs false
namespace Go.Proofs.YtbmifdkglpgbeaaGreat
open Go Go.RowKit Sv
set_option linter.unusedVariables false
set_option linter.unusedSimpArgs false
set_option maxRecDepth 100000
set_option maxHeartbeats 0
theorem n8_of {y : Nat → Nat} {x : Int} (hx : 0 ≤ x ∧ x ≤ 18446744073709551615) (h0 : b8 y 0 = x / 72057594037927936 % 256) (h1 : b8 y 1 = x / 281474976710656 % 256) (h2 : b8 y 2 = x / 1099511627776 % 256) (h3 : b8 y 3 = x / 4294967296 % 256) (h4 : b8 y 4 = x / 16777216 % 256) (h5 : b8 y 5 = x / 65536 % 256) (h6 : b8 y 6 = x / 256 % 256) (h7 : b8 y 7 = x % 256) : n8 y = x := by
  obtain ⟨q1, e1⟩ : ∃ q, q = x / 256 := ⟨_, rfl⟩
  obtain ⟨q2, e2⟩ : ∃ q, q = q1 / 256 := ⟨_, rfl⟩
  obtain ⟨q3, e3⟩ : ∃ q, q = q2 / 256 := ⟨_, rfl⟩
  obtain ⟨q4, e4⟩ : ∃ q, q = q3 / 256 := ⟨_, rfl⟩
  obtain ⟨q5, e5⟩ : ∃ q, q = q4 / 256 := ⟨_, rfl⟩
  obtain ⟨q6, e6⟩ : ∃ q, q = q5 / 256 := ⟨_, rfl⟩
  obtain ⟨q7, e7⟩ : ∃ q, q = q6 / 256 := ⟨_, rfl⟩
  have d (a b : Int) (hb : 0 < b) : a / (b * 256) = a / b / 256 := (Int.ediv_ediv_of_nonneg (Int.le_of_lt hb)).symm
  have k2 : x / 65536 = q2 := by rw [show (65536 : Int) = 256 * 256 by decide, d _ _ (by decide), ← e1, ← e2]
  have k3 : x / 16777216 = q3 := by rw [show (16777216 : Int) = 65536 * 256 by decide, d _ _ (by decide), k2, ← e3]
  have k4 : x / 4294967296 = q4 := by rw [show (4294967296 : Int) = 16777216 * 256 by decide, d _ _ (by decide), k3, ← e4]
  have k5 : x / 1099511627776 = q5 := by rw [show (1099511627776 : Int) = 4294967296 * 256 by decide, d _ _ (by decide), k4, ← e5]
  have k6 : x / 281474976710656 = q6 := by rw [show (281474976710656 : Int) = 1099511627776 * 256 by decide, d _ _ (by decide), k5, ← e6]
  have k7 : x / 72057594037927936 = q7 := by rw [show (72057594037927936 : Int) = 281474976710656 * 256 by decide, d _ _ (by decide), k6, ← e7]
  rw [k7] at h0
  rw [k6] at h1
  rw [k5] at h2
  rw [k4] at h3
  rw [k3] at h4
  rw [k2] at h5
  rw [← e1] at h6
  clear d k2 k3 k4 k5 k6 k7
  unfold n8
  rw [h0, h1, h2, h3, h4, h5, h6, h7]
  omega
def sI : AV → AV
  | .int k x => .sint k x
  | a => a
theorem vd_sI {ρ : Ctx} {a : AV} {v : Value} (h : VD ρ a v) : VD ρ (sI a) v := by
  cases a <;> first | exact h | (cases h; exact .sint _ _)
theorem vd_unsI {ρ : Ctx} {a : AV} {v : Value} (h : VD ρ (sI a) v) : VD ρ a v := by
  cases a <;> first | exact h | (cases h; exact .int _ _)
theorem vds_sI {ρ : Ctx} : ∀ {l : List AV} {vs : List Value}, VDs ρ l vs → VDs ρ (l.map sI) vs
  | [], _, h => h
  | a :: l, _, h => by
    cases h with
    | cons _ v _ m h t => exact .cons _ _ _ _ (vd_sI h) (vds_sI t)
theorem vds_unsI {ρ : Ctx} : ∀ {l : List AV} {vs : List Value}, VDs ρ (l.map sI) vs → VDs ρ l vs
  | [], _, h => h
  | a :: l, _, h => by
    cases h with
    | cons _ v _ m h t => exact .cons _ _ _ _ (vd_unsI h) (vds_unsI t)
theorem vd_ext {ρ : Ctx} {z n : Nat} {f g : Nat → List AV} {v : Value} (h : ∀ i, i < n → (f i).map sI = (g i).map sI) (hv : VD ρ (.data z n f) v) : VD ρ (.data z n g) v := by
  cases hv with
  | data _ _ _ b off cap c elem fr hd hcap hsz hlen hrow =>
    refine .data _ _ _ b off cap c elem fr hd hcap hsz (fun i hi => ?_) fun i hi => vds_unsI ?_
    · have e := congrArg List.length (h i hi)
      rw [List.length_map, List.length_map] at e
      rw [← e]
      exact hlen i hi
    · rw [← h i hi]
      exact vds_sI (hrow i hi)
  | data0 _ _ a c => exact .data0 _ _ _ _
  | dataN _ _ => exact .dataN _ _
/-- a contract, its rows told otherwise. -/
theorem runs_ext {P : Program} {k z n : Nat} {f g : Nat → List AV} {R : AV → List NewB → Prop} (h : ∀ i, i < n → (f i).map sI = (g i).map sI) (hr : Runs P k [.data z n g] R) : Runs P k [.data z n f] R :=
  ⟨hr.1, fun ρ w vs h1 h2 hv => hr.2 ρ w vs h1 h2 (by
    generalize vs.toList = l at hv ⊢
    cases hv with
    | cons _ v _ m h3 h4 => exact .cons _ _ _ _ (vd_ext h h3) h4)⟩
theorem getD_mem {l : List Int} {i : Nat} (h : i < l.length) : l.getD i 0 ∈ l := by
  rw [List.getD_eq_getElem?_getD, List.getElem?_eq_getElem h, Option.getD_some]
  exact List.getElem_mem h
theorem isBy_hd (s : StI) (q : Nat) : ∀ x ∈ s.hd q, 0 ≤ x ∧ x < 256 := by
  unfold StI.hd
  simp only [List.forall_mem_cons]
  repeat (first | refine ⟨by omega, ?_⟩ | (intro x hx; cases hx; done))
theorem hd_len47 (s : StI) (q : Nat) : (s.hd q).length = 47 := rfl
def rowI (s : StI) (q : Nat) (P : Nat → Int) (i : Nat) : Int := if i < 47 then (s.hd q).getD i 0 else (P (i - 47) + 1) % 256
theorem rowI_bd (s : StI) (q : Nat) (P : Nat → Int) (i : Nat) : 0 ≤ rowI s q P i ∧ rowI s q P i < 256 := by
  unfold rowI
  by_cases h : i < 47
  · rw [if_pos h]
    exact isBy_hd s q _ (getD_mem (by rw [hd_len47]; exact h))
  · rw [if_neg h]
    omega
def yT (s : StI) (q : Nat) (P : Nat → Int) (i : Nat) : Nat := (rowI s q P i).toNat
theorem by_T (s : StI) (q : Nat) (P : Nat → Int) (i : Nat) : by8 (yT s q P) i = rowT s q P i := by
  unfold by8 yT
  have := rowI_bd s q P i
  rw [show (((rowI s q P i).toNat % 256 : Nat) : Int) = rowI s q P i by omega]
  rfl
theorem b8_T (s : StI) (q : Nat) (P : Nat → Int) (k j : Nat) : b8 (sh (yT s q P) k) j = rowI s q P (k + j) := by
  unfold b8 sh yT
  have := rowI_bd s q P (k + j)
  omega
theorem n1_T (s : StI) (q : Nat) (P : Nat → Int) (k : Nat) : n1 (sh (yT s q P) k) = rowI s q P k := by
  unfold n1
  rw [b8_T]
  exact Int.zero_add _
theorem n2_T (s : StI) (q : Nat) (P : Nat → Int) (k : Nat) : n2 (sh (yT s q P) k) = rowI s q P k * 256 + rowI s q P (k + 1) := by
  unfold n2
  rw [b8_T, b8_T, Int.zero_add]
  rfl
theorem n4_T (s : StI) (q : Nat) (P : Nat → Int) (k : Nat) : n4 (sh (yT s q P) k) = ((rowI s q P k * 256 + rowI s q P (k + 1)) * 256 + rowI s q P (k + 2)) * 256 + rowI s q P (k + 3) := by
  unfold n4
  rw [b8_T, b8_T, b8_T, b8_T, Int.zero_add]
  rfl
theorem n1_46 (s : StI) (q : Nat) (P : Nat → Int) (hq : q ≤ 255) : n1 (sh (yT s q P) 46) = q := by
  rw [n1_T]
  show (q : Int) % 256 = q
  omega
theorem pk_T (s : StI) (q : Nat) (P : Nat → Int) (h : upAll 254 q P) (j : Nat) (hj : j < q) : pkI (yT s q P) j = P j := by
  unfold pkI
  rw [n1_T]
  unfold rowI
  rw [if_neg (by omega), Nat.add_sub_cancel_left]
  have := h j hj
  omega
theorem stY_T (s : StI) (q : Nat) (P : Nat → Int) (hr : s.rng) (hm : s.may q P) : stY (yT s q P) (n8 (sh (yT s q P) 22) - 1) = s := by
  obtain ⟨h1, h2, h3, h4, h5⟩ := hr
  obtain ⟨⟨m1, m2, m3, m4⟩, ⟨m5, m6, m7, m8⟩, m9, _, m10⟩ := hm
  have e1 : n1 (sh (yT s q P) 0) % 256 = s.d := by
    rw [n1_T]
    show s.d % 256 % 256 = s.d
    omega
  have e2 : n2 (sh (yT s q P) 1) - 1 = s.w := by
    rw [n2_T]
    show (s.w + 1) / 256 % 256 * 256 + (s.w + 1) % 256 - 1 = s.w
    omega
  have e3 : n1 (sh (yT s q P) 11) % 256 = s.k := by
    rw [n1_T]
    show s.k % 256 % 256 = s.k
    omega
  have e4 : n8 (sh (yT s q P) 12) = s.n := n8_of h3 (b8_T _ _ _ _ _) (b8_T _ _ _ _ _) (b8_T _ _ _ _ _) (b8_T _ _ _ _ _) (b8_T _ _ _ _ _) (b8_T _ _ _ _ _) (b8_T _ _ _ _ _) (b8_T _ _ _ _ _)
  have e5 : n2 (sh (yT s q P) 20) - 1 = s.t := by
    rw [n2_T]
    show (s.t + 1) / 256 % 256 * 256 + (s.t + 1) % 256 - 1 = s.t
    omega
  have e6 : n8 (sh (yT s q P) 22) = s.a + 1 := n8_of ⟨by omega, by omega⟩ (b8_T _ _ _ _ _) (b8_T _ _ _ _ _) (b8_T _ _ _ _ _) (b8_T _ _ _ _ _) (b8_T _ _ _ _ _) (b8_T _ _ _ _ _) (b8_T _ _ _ _ _) (b8_T _ _ _ _ _)
  have e7 : n8 (sh (yT s q P) 30) = s.r := n8_of h4 (b8_T _ _ _ _ _) (b8_T _ _ _ _ _) (b8_T _ _ _ _ _) (b8_T _ _ _ _ _) (b8_T _ _ _ _ _) (b8_T _ _ _ _ _) (b8_T _ _ _ _ _) (b8_T _ _ _ _ _)
  have e8 : n8 (sh (yT s q P) 38) = s.o := n8_of h5 (b8_T _ _ _ _ _) (b8_T _ _ _ _ _) (b8_T _ _ _ _ _) (b8_T _ _ _ _ _) (b8_T _ _ _ _ _) (b8_T _ _ _ _ _) (b8_T _ _ _ _ _) (b8_T _ _ _ _ _)
  have e9 : n2 (sh (yT s q P) 5) - 1 = s.K := by
    rw [n2_T]
    show (s.K + 1) / 256 % 256 * 256 + (s.K + 1) % 256 - 1 = s.K
    omega
  have e10 : n2 (sh (yT s q P) 3) - 1 = s.J := by
    rw [n2_T]
    show (s.J + 1) / 256 % 256 * 256 + (s.J + 1) % 256 - 1 = s.J
    omega
  have e11 : n4 (sh (yT s q P) 7) - 1 = s.N := by
    rw [n4_T]
    show (((s.N + 1) / 16777216 % 256 * 256 + (s.N + 1) / 65536 % 256) * 256 + (s.N + 1) / 256 % 256) * 256 + (s.N + 1) % 256 - 1 = s.N
    omega
  have e6' : n8 (sh (yT s q P) 22) - 1 = s.a := by rw [e6]; omega
  unfold stY
  rw [e1, e2, e3, e4, e5, e6', e7, e8, e9, e10, e11]
theorem isSt_T (s : StI) (q : Nat) (P : Nat → Int) (hr : s.rng) (hm : s.may q P) : isSt (47 + q) (yT s q P) := by
  have hq := hm.1.2.2.2
  refine ⟨by rw [n1_46 s q P hq]; omega, ?_⟩
  rw [stY_T s q P hr hm, n1_46 s q P hq, Int.toNat_natCast]
  refine ⟨hm.1, hm.2.1, hm.2.2.1, fun j hj => ?_, hm.2.2.2.2⟩
  rw [pk_T s q P hm.2.2.2.1 j hj]
  exact hm.2.2.2.1 j hj
theorem no_len {n q : Nat} {y : Nat → Nat} (hy : n1 (sh y 46) = q) (hn : n ≠ 47 + q) : ¬ isSt n y := fun h => by
  have := h.1
  omega
def y0 (m : Nat) (y : Nat → Nat) (i : Nat) : Nat := if i < m then y i else 0
theorem y0_46 {m q : Nat} {y : Nat → Nat} (hm : 46 < m) (hy : n1 (sh y 46) = q) : n1 (sh (y0 m y) 46) = q := by
  rw [← hy]
  unfold n1 b8 sh y0
  rw [if_pos (by omega)]
section
variable {o lp : Nat → Bool} {n0 : Nat} {R : AV → List NewB → Prop} {t : T}
theorem get_own {b m m0 : Nat} {f' : Nat → List AV} (y : Nat → Nat) (hd : t.hd = .call 7 [.gsl b m]) (hs : seqAt t.heap b = some (1, m0, f')) (hm : m ≤ m0) (hf : ∀ i, i < m → (f' i).map sI = (by8 y i).map sI ∧ nfs (f' i) = true) (hn : m ≤ 5000)
    (hy : isSt m y → (t.aft (.tuple [.agg ((stY y (n8 (sh y 22) - 1)).row (.gsl 0 (n1 (sh y 46)).toNat)), .int .i64 0]) [.seq 1 (n1 (sh y 46)).toNat (pk y)]).ok Tryz.prog o lp n0 R) (hno : ¬ isSt m y → (t.aft (.tuple [.agg lpZ, .int .i64 5]) []).ok Tryz.prog o lp n0 R) : t.ok Tryz.prog o lp n0 R := by
  refine ok_call hd (runs_ext (g := by8 y) (fun i hi => (hf i hi).1) (tget m y hn)) ⟨⟨rfl, m0, f', hs, hm, fun i hi => ⟨rfl, (hf i hi).2⟩⟩, trivial⟩ fun x G h => ?_
  rcases h with ⟨h, rfl, rfl⟩ | ⟨h, rfl, rfl⟩
  · exact ⟨rfl, fun g hg => (by rcases List.mem_singleton.1 hg with rfl; exact fun _ _ => rfl), hy h⟩
  · exact ⟨rfl, fun g hg => (by cases hg), hno h⟩
/-- what was put is got. -/
theorem get_full {b q m0 : Nat} {s : StI} {P : Nat → Int} (hd : t.hd = .call 7 [.gsl b (47 + q)]) (hs : seqAt t.heap b = some (1, m0, rowT s q P)) (hm : 47 + q ≤ m0) (hr : s.rng) (mp : s.may q P) (hk : (t.aft (.tuple [.agg (s.row (.gsl 0 q)), .int .i64 0]) [.seq 1 q (pk (yT s q P))]).ok Tryz.prog o lp n0 R) : t.ok Tryz.prog o lp n0 R := by
  have hq := mp.1.2.2.2
  refine get_own (yT s q P) hd hs hm (fun i hi => ⟨by rw [by_T], rfl⟩) (by omega) (fun _ => ?_) fun h => absurd (isSt_T s q P hr mp) h
  rw [stY_T s q P hr mp, n1_46 s q P hq, Int.toNat_natCast]
  exact hk
/-- what was cut is none. -/
theorem get_cut {b m q m0 : Nat} {s : StI} {P : Nat → Int} (hd : t.hd = .call 7 [.gsl b m]) (hs : seqAt t.heap b = some (1, m0, rowT s q P)) (hm : m ≤ m0) (hc : m < 47 + q) (mp : s.may q P) (hk : (t.aft (.tuple [.agg lpZ, .int .i64 5]) []).ok Tryz.prog o lp n0 R) : t.ok Tryz.prog o lp n0 R := by
  have hq := mp.1.2.2.2
  exact get_own (yT s q P) hd hs hm (fun i hi => ⟨by rw [by_T], rfl⟩) (by omega) (fun h => absurd h (no_len (n1_46 s q P hq) (by omega))) fun _ => hk
/-- nor what has a byte more. -/
theorem get_more {b q m0 : Nat} {s : StI} {P : Nat → Int} {g : Nat → List AV} (hd : t.hd = .call 7 [.gsl b (47 + q + 1)]) (hs : seqAt t.heap b = some (1, m0, glue (47 + q) (rowT s q P) g)) (hg : g 0 = [.int .u8 0]) (hm : 47 + q + 1 ≤ m0) (mp : s.may q P) (hk : (t.aft (.tuple [.agg lpZ, .int .i64 5]) []).ok Tryz.prog o lp n0 R) : t.ok Tryz.prog o lp n0 R := by
  have hq := mp.1.2.2.2
  refine get_own (y0 (47 + q) (yT s q P)) hd hs hm (fun i hi => ?_) (by omega) (fun h => absurd h (no_len (y0_46 (by omega) (n1_46 s q P hq)) (by omega))) fun _ => hk
  unfold glue
  by_cases h : i < 47 + q
  · rw [if_pos h]
    refine ⟨?_, rfl⟩
    rw [← by_T]
    unfold by8 y0
    rw [if_pos h]
  · rw [if_neg h]
    obtain rfl : i = 47 + q := by omega
    rw [Nat.sub_self, hg]
    refine ⟨?_, rfl⟩
    unfold by8 y0
    rw [if_neg h]
    rfl
end
end Go.Proofs.YtbmifdkglpgbeaaGreat
namespace Go.Proofs.YtbmifdkglpgbeaaGreat
open Go Go.RowKit Sv
set_option linter.unusedVariables false
set_option linter.unusedSimpArgs false
set_option maxRecDepth 100000
set_option maxHeartbeats 0
theorem rows_T (s : StI) (q : Nat) (P : Nat → Int) (n : Nat) : RowsOK 1 n (rowT s q P) := fun i hi => ⟨rfl, rfl⟩
theorem law0 (W : Runs Tryz.prog 4 [] fun x G => x = .bool true ∧ G = []) (s : StI) (q : Nat) (P : Nat → Int) (hq : q ≤ 9223372036854775807) (hr : s.rng) (c : Int) (hc : 0 ≤ c ∧ c ≤ 65535) : Runs Tryz.prog 3 [.agg (s.row (ints q P)), .sint .u16 c] fun x G => x = .bool true ∧ G = [] := by
  have ht : 0 ≤ c.tmod ((47 + q : Nat) : Int) ∧ c.tmod ((47 + q : Nat) : Int) < ((47 + q : Nat) : Int) := by
    rw [Int.tmod_eq_emod_of_nonneg hc.1]
    exact ⟨Int.emod_nonneg _ (by omega), Int.emod_lt_of_pos _ (by omega)⟩
  refine runs_treeF plain mixed (fun g => Nat.beq g 6 || Nat.beq g 5 || Nat.beq g 7 || Nat.beq g 8 || Nat.beq g 4) (fun _ => true) 80 ?_
  refine ok_sk (.both (.stop []) (.stop [])) (S := .fork (decide (300 < (↑q : Int))) (.stop (Hd.call 4 []) [] ([])) (.stop (Hd.call 5 [.agg [.sint .u8 s.d, .sint .i64 s.w, .sint .u8 s.k, .sint .u64 s.n, .sint .i64 s.t, .sint .i64 s.a, .sint .u64 s.r, .sint .u64 s.o, .sint .i64 s.K, .sint .i64 s.J, .sint .i64 s.N, .data 1 q fun (i : Nat) => [.sint .i64 (P i)]]]) [] ([]))) (by kernel_rfl) ?_
  refine hold_forkD (fun h0 => ?_) (fun h0 => ?_)
  ·
   refine hold_stop (fun hd hb => ?_)
   refine ok_call0 hd W rfl ?_
   rintro x G ⟨rfl, rfl⟩
   refine ⟨rfl, fun g hg => (by cases hg), ?_⟩
   refine ok_sk (.stop []) (S := .stop (Hd.leaf (.bool true)) [] ([])) (by kernel_rfl) ?_
   refine hold_stop (fun hd hb => ?_)
   exact ok_leaf0 hd rfl ⟨rfl, rfl⟩
  refine hold_stop (fun hd hb => ?_)
  refine ok_call0 hd (tput s q P (by omega) hr) rfl ?_
  rintro x G (⟨rfl, rfl, mp⟩ | ⟨mp, rfl, rfl⟩) <;> first | refine ⟨rfl, fun g hg => (by rcases List.mem_singleton.1 hg with rfl; exact fun _ _ => rfl), ?_⟩ | refine ⟨rfl, fun g hg => (by cases hg), ?_⟩
  ·
   refine ok_sk (.stop []) (S := .stop (Hd.call 6 [.agg [.sint .u8 s.d, .sint .i64 s.w, .sint .u8 s.k, .sint .u64 s.n, .sint .i64 s.t, .sint .i64 s.a, .sint .u64 s.r, .sint .u64 s.o, .sint .i64 s.K, .sint .i64 s.J, .sint .i64 s.N, .data 1 q fun (i : Nat) => [.sint .i64 (P i)]]]) [] ([])) (by kernel_rfl) ?_
   refine hold_stop (fun hd hb => ?_)
   refine ok_call0 hd (tmay s q P (by omega) hr.1.1) rfl ?_
   rintro x G ⟨rfl, ⟨rfl, my⟩ | ⟨rfl, my⟩⟩ <;> refine ⟨rfl, fun g hg => (by cases hg), ?_⟩
   ·
    refine ok_sk (.l (.r (.stop []))) (S := .left (decide ((-9223372036854775808 : Int) ≤ 47 + (↑q : Int) ∧ (47 : Int) + (↑q : Int) ≤ 9223372036854775807)) (.right (decide ((0 : Int) = 47 + (↑q : Int))) (.stop (Hd.leaf (.bool false)) [] ([])))) (by kernel_rfl) ?_
    refine hl (bc fun h3 => by omega) ?_
    refine hzr (fun h3 => by omega) ?_
    refine hold_stop (fun hd hb => ?_)
    exact absurd my mp
   refine ok_sk (.stop []) (S := .stop (Hd.call 4 []) [] ([])) (by kernel_rfl) ?_
   refine hold_stop (fun hd hb => ?_)
   refine ok_call0 hd W rfl ?_
   rintro x G ⟨rfl, rfl⟩
   refine ⟨rfl, fun g hg => (by cases hg), ?_⟩
   refine ok_sk (.stop []) (S := .stop (Hd.leaf (.bool true)) [] ([])) (by kernel_rfl) ?_
   refine hold_stop (fun hd hb => ?_)
   exact ok_leaf0 hd rfl ⟨rfl, rfl⟩
  refine ok_sk (.stop []) (S := .stop (Hd.call 6 [.agg [.sint .u8 s.d, .sint .i64 s.w, .sint .u8 s.k, .sint .u64 s.n, .sint .i64 s.t, .sint .i64 s.a, .sint .u64 s.r, .sint .u64 s.o, .sint .i64 s.K, .sint .i64 s.J, .sint .i64 s.N, .data 1 q fun (i : Nat) => [.sint .i64 (P i)]]]) [] ([])) (by kernel_rfl) ?_
  refine hold_stop (fun hd hb => ?_)
  refine ok_call0 hd (tmay s q P (by omega) hr.1.1) rfl ?_
  rintro x G ⟨rfl, ⟨rfl, my⟩ | ⟨rfl, my⟩⟩ <;> refine ⟨rfl, fun g hg => (by cases hg), ?_⟩
  ·
   refine ok_sk (.l (.l (.stop [1]))) (S := .left (decide ((-9223372036854775808 : Int) ≤ 47 + (↑q : Int) ∧ (47 : Int) + (↑q : Int) ≤ 9223372036854775807)) (.left (decide ((↑(47 + q) : Int) = 47 + (↑q : Int))) (.stop (Hd.call 7 [.gsl 1 (47 + q)]) [1] ([(some (Blk.seq 1 1 (47 + q) (rowT s q P)), some (1, 47 + q, rowT s q P))])))) (by kernel_rfl) ?_
   refine hl (bc fun h3 => by omega) ?_
   refine hl (bc fun h3 => by omega) ?_
   refine hold_stop (fun hd hb => ?_)
   refine get_full hd (look_get hb 0 rfl rfl).2 (by omega) hr mp ?_
   refine ok_sk (.l (.r (.l (.stop [1])))) (S := .left (decide ((-9223372036854775808 : Int) ≤ c ∧ c ≤ 9223372036854775807)) (.right (decide ((↑(47 + q) : Int) = 0)) (.left (decide ((0 : Int) = 0 ∧ 0 ≤ c.tmod (↑(47 + q) : Int) ∧ c.tmod (↑(47 + q) : Int) ≤ (↑(47 + q) : Int))) (.stop (Hd.call 7 [.gsl 1 (c.tmod (↑(47 + q) : Int)).toNat]) [1] ([(some (Blk.seq 1 1 (47 + q) (rowT s q P)), some (1, 47 + q, rowT s q P))]))))) (by kernel_rfl) ?_
   refine hl (bc fun h4 => by omega) ?_
   refine hzr (fun h4 => by omega) ?_
   refine hl (bc fun h4 => by omega) ?_
   refine hold_stop (fun hd hb => ?_)
   refine get_cut (q := q) hd (look_get hb 0 rfl rfl).2 (by omega) (by omega) mp ?_
   refine ok_sk (.l (.l (.l (.l (.stop [8]))))) (S := .left (decide (47 + q ≤ 47 + q)) (.left (@decide (47 + q < 65536 ∧ RowsOK 1 (47 + q) (rowT s q P)) pd) (.left (@decide (1 < 65536 ∧ RowsOK 1 1 fun (i : Nat) => List.take 1 (List.drop (i * 1) [.int .u8 (0 : Int)])) pd) (.left (decide (47 + q ≤ 47 + q ∧ 47 + q < 65536)) (.stop (Hd.call 7 [.gsl 8 (47 + q + 1)]) [8] ([(some (Blk.seq 8 1 (47 + q + 1) (glue (47 + q) (rowT s q P) fun (i : Nat) => List.take 1 (List.drop (i * 1) [.int .u8 (0 : Int)]))), some (1, 47 + q + 1, glue (47 + q) (rowT s q P) fun (i : Nat) => List.take 1 (List.drop (i * 1) [.int .u8 (0 : Int)])))])))))) (by kernel_rfl) ?_
   refine hl (bc fun h5 => by omega) ?_
   refine hl (bc fun h5 => by exact h5 ⟨by omega, rows_T _ _ _ _⟩) ?_
   refine hl (bc fun h5 => by exact h5 ⟨by omega, fun i hi => by obtain rfl : i = 0 := (by omega); exact ⟨rfl, rfl⟩⟩) ?_
   refine hl (bc fun h5 => by omega) ?_
   refine hold_stop (fun hd hb => ?_)
   refine get_more hd (look_get hb 0 rfl rfl).2 rfl (by omega) mp ?_
   refine ok_sk (.stop [2]) (S := .stop (Hd.call 8 [.agg [.sint .u8 s.d, .sint .i64 s.w, .sint .u8 s.k, .sint .u64 s.n, .sint .i64 s.t, .sint .i64 s.a, .sint .u64 s.r, .sint .u64 s.o, .sint .i64 s.K, .sint .i64 s.J, .sint .i64 s.N, .gsl 2 q], .agg [.sint .u8 s.d, .sint .i64 s.w, .sint .u8 s.k, .sint .u64 s.n, .sint .i64 s.t, .sint .i64 s.a, .sint .u64 s.r, .sint .u64 s.o, .sint .i64 s.K, .sint .i64 s.J, .sint .i64 s.N, .data 1 q fun (i : Nat) => [.sint .i64 (P i)]]]) [2] ([(some (Blk.seq 2 1 q (pk (yT s q P))), some (1, q, pk (yT s q P)))])) (by kernel_rfl) ?_
   refine hold_stop (fun hd hb => ?_)
   refine ok_call hd (tsame s s q q (pkI (yT s q P)) P (by omega) (by omega)) ⟨(st_view (s := s) (look_get hb 0 rfl rfl).2 (Nat.le_refl _) (fun j hj => rfl)).1, (views_self [.agg (s.row (ints q P))] rfl)⟩ ?_
   rintro x G ⟨rfl, ⟨rfl, sm⟩ | ⟨rfl, sm⟩⟩ <;> refine ⟨rfl, fun g hg => (by cases hg), ?_⟩
   ·
    refine ok_sk (.stop []) (S := .stop (Hd.call 4 []) [] ([])) (by kernel_rfl) ?_
    refine hold_stop (fun hd hb => ?_)
    refine ok_call0 hd W rfl ?_
    rintro x G ⟨rfl, rfl⟩
    refine ⟨rfl, fun g hg => (by cases hg), ?_⟩
    refine ok_sk (.stop []) (S := .stop (Hd.leaf (.bool true)) [] ([])) (by kernel_rfl) ?_
    refine hold_stop (fun hd hb => ?_)
    exact ok_leaf0 hd rfl ⟨rfl, rfl⟩
   refine ok_sk (.stop []) (S := .stop (Hd.leaf (.bool false)) [] ([])) (by kernel_rfl) ?_
   refine hold_stop (fun hd hb => ?_)
   exact absurd ⟨rfl, rfl, fun j hj => pk_T s q P mp.2.2.2.1 j hj⟩ sm
  refine ok_sk (.r (.stop [])) (S := .right (decide ((↑(47 + q) : Int) = 0)) (.stop (Hd.leaf (.bool false)) [] ([]))) (by kernel_rfl) ?_
  refine hzr (fun h3 => by omega) ?_
  refine hold_stop (fun hd hb => ?_)
  exact absurd mp my
end Go.Proofs.YtbmifdkglpgbeaaGreat
namespace Go.Proofs.YtbmifdkglpgbeaaGreat
open Go Go.RowKit Sv
set_option linter.unusedVariables false
set_option maxRecDepth 100000
set_option maxHeartbeats 0
section
variable {P : Program} {w : World} {H : Type} {enc : TypeId × Value → H} {base : Nat} {sp : Nat → Bool} {held : Bool}
theorem reif_map {t : TypeId} {X Y : Type} {row : X → List AV} {Q : X → Prop} {row' : Y → List AV} {Q' : Y → Prop} (h : Reif enc P w base sp held t X row Q) (g : X → Y) (h1 : ∀ x ρ vs, Q x → VDs ρ (row x) vs → VDs ρ (row' (g x)) vs) (h2 : ∀ x, Q x → Q' (g x)) : Reif enc P w base sp held t Y row' Q' := fun fuel cs d hd => by
  obtain ⟨x, hx, hq⟩ := h fuel cs d hd
  exact ⟨g x, h1 x _ _ hq hx, h2 x hq⟩
theorem u64_rng {x : Int} (h : IntKind.u64.min ≤ x ∧ x ≤ IntKind.u64.max) : 0 ≤ x ∧ x ≤ 18446744073709551615 := by
  have e : IntKind.u64.min = 0 := by decide
  have e' : IntKind.u64.max = 18446744073709551615 := by decide
  omega
theorem u8_rng {x : Int} (h : IntKind.u8.min ≤ x ∧ x ≤ IntKind.u8.max) : 0 ≤ x ∧ x ≤ 255 := by
  have e : IntKind.u8.min = 0 := by decide
  have e' : IntKind.u8.max = 255 := by decide
  omega
def StX : Type := StI × Nat × (Nat → Int)
def StX.row (x : StX) : List AV := x.1.row (ints x.2.1 x.2.2)
def StX.rng (x : StX) : Prop := x.1.rng ∧ x.2.1 ≤ maxLen
theorem reif_ask : Reif enc Tryz.prog w base sp held 24 (Int × Int × Int × Int × Int × Int) (fun x => [.sint .u8 x.1, .sint .u64 x.2.1, .sint .i64 x.2.2.1, .sint .i64 x.2.2.2.1, .sint .u64 x.2.2.2.2.1, .sint .u64 x.2.2.2.2.2]) (fun x => (0 ≤ x.1 ∧ x.1 ≤ 255) ∧ (0 ≤ x.2.1 ∧ x.2.1 ≤ 18446744073709551615) ∧ (0 ≤ x.2.2.2.2.1 ∧ x.2.2.2.2.1 ≤ 18446744073709551615) ∧ (0 ≤ x.2.2.2.2.2 ∧ x.2.2.2.2.2 ≤ 18446744073709551615)) :=
  reif_map (reif_struct Tryz.underlying24 (reif_field (z := 1) rfl (by kernel_rfl) (reif_int .u8 Tryz.underlying5) (reif_field (z := 1) rfl (by kernel_rfl) (reif_int .u64 Tryz.underlying22) (reif_field (z := 1) rfl (by kernel_rfl) (reif_int .i64 Tryz.underlying3) (reif_field (z := 1) rfl (by kernel_rfl) (reif_int .i64 Tryz.underlying2)
    (reif_field (z := 1) rfl (by kernel_rfl) (reif_int .u64 Tryz.underlying22) (reif_field (z := 1) rfl (by kernel_rfl) (reif_int .u64 Tryz.underlying22) (reif_end (of_decide_eq_true (by kernel_rfl))))))))))
    (fun x => (x.1, x.2.1, x.2.2.1, x.2.2.2.1, x.2.2.2.2.1, x.2.2.2.2.2.1))
    (fun x ρ vs _ h => h)
    (fun x ⟨h1, h2, _, _, h3, h4, _⟩ => ⟨u8_rng h1, u64_rng h2, u64_rng h3, u64_rng h4⟩)
theorem reif_step : Reif enc Tryz.prog w base sp held 27 StX StX.row StX.rng :=
  reif_map (reif_struct Tryz.underlying27 (reif_field (z := 1) rfl (by kernel_rfl) (reif_int .u8 Tryz.underlying5) (reif_field (z := 1) rfl (by kernel_rfl) (reif_int .i64 Tryz.underlying3) (reif_field (z := 6) rfl (by kernel_rfl) reif_ask (reif_field (z := 1) rfl (by kernel_rfl) (reif_int .i64 Tryz.underlying3)
    (reif_field (z := 1) rfl (by kernel_rfl) (reif_int .i64 Tryz.underlying3) (reif_field (z := 1) rfl (by kernel_rfl) (reif_int .i64 Tryz.underlying3) (reif_field (z := 1) rfl (by kernel_rfl) (reif_slice 1 Tryz.underlying25 (by kernel_rfl) (by decide) (fun _ => rfl) (reif_int .i64 Tryz.underlying3)) (reif_end (of_decide_eq_true (by kernel_rfl)))))))))))
    (fun x => (⟨x.1, x.2.1, x.2.2.1.1, x.2.2.1.2.1, x.2.2.1.2.2.1, x.2.2.1.2.2.2.1, x.2.2.1.2.2.2.2.1, x.2.2.1.2.2.2.2.2, x.2.2.2.1, x.2.2.2.2.1, x.2.2.2.2.2.1⟩, x.2.2.2.2.2.2.1.1, x.2.2.2.2.2.2.1.2))
    (fun x ρ vs _ h => h)
    (fun x ⟨h1, _, h2, _, _, _, h3, _⟩ => ⟨⟨u8_rng h1, h2.1, h2.2.1, h2.2.2.1, h2.2.2.2⟩, h3.1⟩)
end
theorem works : Runs Tryz.prog 4 [] fun x G => x = .bool true ∧ G = [] :=
  runs_closed plain mixed rfl rfl 1000000 (by kernel_rfl)
theorem tlaw (x : StX) (hx : x.rng) (c : Int) (hc : IntKind.u16.min ≤ c ∧ c ≤ IntKind.u16.max) : Runs Tryz.prog 3 [.agg x.row, .sint .u16 c] fun y G => y = .bool true ∧ G = [] := by
  have e : maxLen = 9223372036854775807 := by decide
  have h1 := hx.2
  have e1 : IntKind.u16.min = 0 := by decide
  have e2 : IntKind.u16.max = 65535 := by decide
  exact law0 works x.1 x.2.1 x.2.2 (by omega) hx.1 c (by omega)
end Go.Proofs.YtbmifdkglpgbeaaGreat
