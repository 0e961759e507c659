import Derived.Test.YtkebdfbdneggkaaGreatUb
import Derived.Test.YtkebdfbdneggkaaGreatUa
set_option linter.unusedVariables false
set_option linter.unusedSimpArgs false
namespace Go.Proofs.YtkebdfbdneggkaaGreat
open Go Go.RowKit Sv
set_option linter.unusedVariables false
set_option linter.unusedSimpArgs false
set_option maxRecDepth 100000
set_option maxHeartbeats 0
theorem n8_of {y : Nat → Nat} {x : Int} (hx : 0 ≤ x ∧ x ≤ 18446744073709551615) (h0 : b8 y 0 = x / 72057594037927936 % 256) (h1 : b8 y 1 = x / 281474976710656 % 256) (h2 : b8 y 2 = x / 1099511627776 % 256) (h3 : b8 y 3 = x / 4294967296 % 256) (h4 : b8 y 4 = x / 16777216 % 256) (h5 : b8 y 5 = x / 65536 % 256) (h6 : b8 y 6 = x / 256 % 256) (h7 : b8 y 7 = x % 256) : n8 y = x := by
  obtain ⟨q1, e1⟩ : ∃ q, q = x / 256 := ⟨_, rfl⟩
  obtain ⟨q2, e2⟩ : ∃ q, q = q1 / 256 := ⟨_, rfl⟩
  obtain ⟨q3, e3⟩ : ∃ q, q = q2 / 256 := ⟨_, rfl⟩
  obtain ⟨q4, e4⟩ : ∃ q, q = q3 / 256 := ⟨_, rfl⟩
  obtain ⟨q5, e5⟩ : ∃ q, q = q4 / 256 := ⟨_, rfl⟩
  obtain ⟨q6, e6⟩ : ∃ q, q = q5 / 256 := ⟨_, rfl⟩
  obtain ⟨q7, e7⟩ : ∃ q, q = q6 / 256 := ⟨_, rfl⟩
  have d (a b : Int) (hb : 0 < b) : a / (b * 256) = a / b / 256 := (Int.ediv_ediv_of_nonneg (Int.le_of_lt hb)).symm
  have k2 : x / 65536 = q2 := by rw [show (65536 : Int) = 256 * 256 by decide, d _ _ (by decide), ← e1, ← e2]
  have k3 : x / 16777216 = q3 := by rw [show (16777216 : Int) = 65536 * 256 by decide, d _ _ (by decide), k2, ← e3]
  have k4 : x / 4294967296 = q4 := by rw [show (4294967296 : Int) = 16777216 * 256 by decide, d _ _ (by decide), k3, ← e4]
  have k5 : x / 1099511627776 = q5 := by rw [show (1099511627776 : Int) = 4294967296 * 256 by decide, d _ _ (by decide), k4, ← e5]
  have k6 : x / 281474976710656 = q6 := by rw [show (281474976710656 : Int) = 1099511627776 * 256 by decide, d _ _ (by decide), k5, ← e6]
  have k7 : x / 72057594037927936 = q7 := by rw [show (72057594037927936 : Int) = 281474976710656 * 256 by decide, d _ _ (by decide), k6, ← e7]
  rw [k7] at h0
  rw [k6] at h1
  rw [k5] at h2
  rw [k4] at h3
  rw [k3] at h4
  rw [k2] at h5
  rw [← e1] at h6
  clear d k2 k3 k4 k5 k6 k7
  unfold n8
  rw [h0, h1, h2, h3, h4, h5, h6, h7]
  omega
def sI : AV → AV
  | .int k x => .sint k x
  | a => a
theorem vd_sI {ρ : Ctx} {a : AV} {v : Value} (h : VD ρ a v) : VD ρ (sI a) v := by
  cases a <;> first | exact h | (cases h; exact .sint _ _)
theorem vd_unsI {ρ : Ctx} {a : AV} {v : Value} (h : VD ρ (sI a) v) : VD ρ a v := by
  cases a <;> first | exact h | (cases h; exact .int _ _)
theorem vds_sI {ρ : Ctx} : ∀ {l : List AV} {vs : List Value}, VDs ρ l vs → VDs ρ (l.map sI) vs
  | [], _, h => h
  | a :: l, _, h => by
    cases h with
    | cons _ v _ m h t => exact .cons _ _ _ _ (vd_sI h) (vds_sI t)
theorem vds_unsI {ρ : Ctx} : ∀ {l : List AV} {vs : List Value}, VDs ρ (l.map sI) vs → VDs ρ l vs
  | [], _, h => h
  | a :: l, _, h => by
    cases h with
    | cons _ v _ m h t => exact .cons _ _ _ _ (vd_unsI h) (vds_unsI t)
theorem vd_ext {ρ : Ctx} {z n : Nat} {f g : Nat → List AV} {v : Value} (h : ∀ i, i < n → (f i).map sI = (g i).map sI) (hv : VD ρ (.data z n f) v) : VD ρ (.data z n g) v := by
  cases hv with
  | data _ _ _ b off cap c elem fr hd hcap hsz hlen hrow =>
    refine .data _ _ _ b off cap c elem fr hd hcap hsz (fun i hi => ?_) fun i hi => vds_unsI ?_
    · have e := congrArg List.length (h i hi)
      rw [List.length_map, List.length_map] at e
      rw [← e]
      exact hlen i hi
    · rw [← h i hi]
      exact vds_sI (hrow i hi)
  | data0 _ _ a c => exact .data0 _ _ _ _
  | dataN _ _ => exact .dataN _ _
/-- a contract, its rows told otherwise. -/
theorem runs_ext {P : Program} {k z n : Nat} {f g : Nat → List AV} {R : AV → List NewB → Prop} (h : ∀ i, i < n → (f i).map sI = (g i).map sI) (hr : Runs P k [.data z n g] R) : Runs P k [.data z n f] R :=
  ⟨hr.1, fun ρ w vs h1 h2 hv => hr.2 ρ w vs h1 h2 (by
    generalize vs.toList = l at hv ⊢
    cases hv with
    | cons _ v _ m h3 h4 => exact .cons _ _ _ _ (vd_ext h h3) h4)⟩
theorem getD_mem {l : List Int} {i : Nat} (h : i < l.length) : l.getD i 0 ∈ l := by
  rw [List.getD_eq_getElem?_getD, List.getElem?_eq_getElem h, Option.getD_some]
  exact List.getElem_mem h
theorem isBy_hd (s : StI) (q : Nat) : ∀ x ∈ s.hd q, 0 ≤ x ∧ x < 256 := by
  unfold StI.hd
  simp only [List.forall_mem_cons]
  repeat (first | refine ⟨by omega, ?_⟩ | (intro x hx; cases hx; done))
theorem hd_len47 (s : StI) (q : Nat) : (s.hd q).length = 47 := rfl
def rowI (s : StI) (q : Nat) (P : Nat → Int) (i : Nat) : Int := if i < 47 then (s.hd q).getD i 0 else (P (i - 47) + 1) % 256
theorem rowI_bd (s : StI) (q : Nat) (P : Nat → Int) (i : Nat) : 0 ≤ rowI s q P i ∧ rowI s q P i < 256 := by
  unfold rowI
  by_cases h : i < 47
  · rw [if_pos h]
    exact isBy_hd s q _ (getD_mem (by rw [hd_len47]; exact h))
  · rw [if_neg h]
    omega
def yT (s : StI) (q : Nat) (P : Nat → Int) (i : Nat) : Nat := (rowI s q P i).toNat
theorem by_T (s : StI) (q : Nat) (P : Nat → Int) (i : Nat) : by8 (yT s q P) i = rowT s q P i := by
  unfold by8 yT
  have := rowI_bd s q P i
  rw [show (((rowI s q P i).toNat % 256 : Nat) : Int) = rowI s q P i by omega]
  rfl
theorem b8_T (s : StI) (q : Nat) (P : Nat → Int) (k j : Nat) : b8 (sh (yT s q P) k) j = rowI s q P (k + j) := by
  unfold b8 sh yT
  have := rowI_bd s q P (k + j)
  omega
theorem n1_T (s : StI) (q : Nat) (P : Nat → Int) (k : Nat) : n1 (sh (yT s q P) k) = rowI s q P k := by
  unfold n1
  rw [b8_T]
  exact Int.zero_add _
theorem n2_T (s : StI) (q : Nat) (P : Nat → Int) (k : Nat) : n2 (sh (yT s q P) k) = rowI s q P k * 256 + rowI s q P (k + 1) := by
  unfold n2
  rw [b8_T, b8_T, Int.zero_add]
  rfl
theorem n4_T (s : StI) (q : Nat) (P : Nat → Int) (k : Nat) : n4 (sh (yT s q P) k) = ((rowI s q P k * 256 + rowI s q P (k + 1)) * 256 + rowI s q P (k + 2)) * 256 + rowI s q P (k + 3) := by
  unfold n4
  rw [b8_T, b8_T, b8_T, b8_T, Int.zero_add]
  rfl
theorem n1_46 (s : StI) (q : Nat) (P : Nat → Int) (hq : q ≤ 255) : n1 (sh (yT s q P) 46) = q := by
  rw [n1_T]
  show (q : Int) % 256 = q
  omega
theorem pk_T (s : StI) (q : Nat) (P : Nat → Int) (h : upAll 254 q P) (j : Nat) (hj : j < q) : pkI (yT s q P) j = P j := by
  unfold pkI
  rw [n1_T]
  unfold rowI
  rw [if_neg (by omega), Nat.add_sub_cancel_left]
  have := h j hj
  omega
theorem stY_T (s : StI) (q : Nat) (P : Nat → Int) (hr : s.rng) (hm : s.may q P) : stY (yT s q P) (n8 (sh (yT s q P) 22) - 1) = s := by
  obtain ⟨h1, h2, h3, h4, h5⟩ := hr
  obtain ⟨⟨m1, m2, m3, m4⟩, ⟨m5, m6, m7, m8⟩, m9, _, m10⟩ := hm
  have e1 : n1 (sh (yT s q P) 0) % 256 = s.d := by
    rw [n1_T]
    show s.d % 256 % 256 = s.d
    omega
  have e2 : n2 (sh (yT s q P) 1) - 1 = s.w := by
    rw [n2_T]
    show (s.w + 1) / 256 % 256 * 256 + (s.w + 1) % 256 - 1 = s.w
    omega
  have e3 : n1 (sh (yT s q P) 11) % 256 = s.k := by
    rw [n1_T]
    show s.k % 256 % 256 = s.k
    omega
  have e4 : n8 (sh (yT s q P) 12) = s.n := n8_of h3 (b8_T _ _ _ _ _) (b8_T _ _ _ _ _) (b8_T _ _ _ _ _) (b8_T _ _ _ _ _) (b8_T _ _ _ _ _) (b8_T _ _ _ _ _) (b8_T _ _ _ _ _) (b8_T _ _ _ _ _)
  have e5 : n2 (sh (yT s q P) 20) - 1 = s.t := by
    rw [n2_T]
    show (s.t + 1) / 256 % 256 * 256 + (s.t + 1) % 256 - 1 = s.t
    omega
  have e6 : n8 (sh (yT s q P) 22) = s.a + 1 := n8_of ⟨by omega, by omega⟩ (b8_T _ _ _ _ _) (b8_T _ _ _ _ _) (b8_T _ _ _ _ _) (b8_T _ _ _ _ _) (b8_T _ _ _ _ _) (b8_T _ _ _ _ _) (b8_T _ _ _ _ _) (b8_T _ _ _ _ _)
  have e7 : n8 (sh (yT s q P) 30) = s.r := n8_of h4 (b8_T _ _ _ _ _) (b8_T _ _ _ _ _) (b8_T _ _ _ _ _) (b8_T _ _ _ _ _) (b8_T _ _ _ _ _) (b8_T _ _ _ _ _) (b8_T _ _ _ _ _) (b8_T _ _ _ _ _)
  have e8 : n8 (sh (yT s q P) 38) = s.o := n8_of h5 (b8_T _ _ _ _ _) (b8_T _ _ _ _ _) (b8_T _ _ _ _ _) (b8_T _ _ _ _ _) (b8_T _ _ _ _ _) (b8_T _ _ _ _ _) (b8_T _ _ _ _ _) (b8_T _ _ _ _ _)
  have e9 : n2 (sh (yT s q P) 5) - 1 = s.K := by
    rw [n2_T]
    show (s.K + 1) / 256 % 256 * 256 + (s.K + 1) % 256 - 1 = s.K
    omega
  have e10 : n2 (sh (yT s q P) 3) - 1 = s.J := by
    rw [n2_T]
    show (s.J + 1) / 256 % 256 * 256 + (s.J + 1) % 256 - 1 = s.J
    omega
  have e11 : n4 (sh (yT s q P) 7) - 1 = s.N := by
    rw [n4_T]
    show (((s.N + 1) / 16777216 % 256 * 256 + (s.N + 1) / 65536 % 256) * 256 + (s.N + 1) / 256 % 256) * 256 + (s.N + 1) % 256 - 1 = s.N
    omega
  have e6' : n8 (sh (yT s q P) 22) - 1 = s.a := by rw [e6]; omega
  unfold stY
  rw [e1, e2, e3, e4, e5, e6', e7, e8, e9, e10, e11]
theorem isSt_T (s : StI) (q : Nat) (P : Nat → Int) (hr : s.rng) (hm : s.may q P) : isSt (47 + q) (yT s q P) := by
  have hq := hm.1.2.2.2
  refine ⟨by rw [n1_46 s q P hq]; omega, ?_⟩
  rw [stY_T s q P hr hm, n1_46 s q P hq, Int.toNat_natCast]
  refine ⟨hm.1, hm.2.1, hm.2.2.1, fun j hj => ?_, hm.2.2.2.2⟩
  rw [pk_T s q P hm.2.2.2.1 j hj]
  exact hm.2.2.2.1 j hj
theorem no_len {n q : Nat} {y : Nat → Nat} (hy : n1 (sh y 46) = q) (hn : n ≠ 47 + q) : ¬ isSt n y := fun h => by
  have := h.1
  omega
def y0 (m : Nat) (y : Nat → Nat) (i : Nat) : Nat := if i < m then y i else 0
theorem y0_46 {m q : Nat} {y : Nat → Nat} (hm : 46 < m) (hy : n1 (sh y 46) = q) : n1 (sh (y0 m y) 46) = q := by
  rw [← hy]
  unfold n1 b8 sh y0
  rw [if_pos (by omega)]
section
variable {o lp : Nat → Bool} {n0 : Nat} {R : AV → List NewB → Prop} {t : T}
theorem get_own {b m m0 : Nat} {f' : Nat → List AV} (y : Nat → Nat) (hd : t.hd = .call 10 [.gsl b m]) (hs : seqAt t.heap b = some (1, m0, f')) (hm : m ≤ m0) (hf : ∀ i, i < m → (f' i).map sI = (by8 y i).map sI ∧ nfs (f' i) = true) (hn : m ≤ 5000)
    (hy : isSt m y → (t.aft (.tuple [.agg ((stY y (n8 (sh y 22) - 1)).row (.gsl 0 (n1 (sh y 46)).toNat)), .int .i64 0]) [.seq 1 (n1 (sh y 46)).toNat (pk y)]).ok Tryz.prog o lp n0 R) (hno : ¬ isSt m y → (t.aft (.tuple [.agg lpZ, .int .i64 5]) []).ok Tryz.prog o lp n0 R) : t.ok Tryz.prog o lp n0 R := by
  refine ok_call hd (runs_ext (g := by8 y) (fun i hi => (hf i hi).1) (tget m y hn)) ⟨⟨rfl, m0, f', hs, hm, fun i hi => ⟨rfl, (hf i hi).2⟩⟩, trivial⟩ fun x G h => ?_
  rcases h with ⟨h, rfl, rfl⟩ | ⟨h, rfl, rfl⟩
  · exact ⟨rfl, fun g hg => (by rcases List.mem_singleton.1 hg with rfl; exact fun _ _ => rfl), hy h⟩
  · exact ⟨rfl, fun g hg => (by cases hg), hno h⟩
/-- what was put is got. -/
theorem get_full {b q m0 : Nat} {s : StI} {P : Nat → Int} (hd : t.hd = .call 10 [.gsl b (47 + q)]) (hs : seqAt t.heap b = some (1, m0, rowT s q P)) (hm : 47 + q ≤ m0) (hr : s.rng) (mp : s.may q P) (hk : (t.aft (.tuple [.agg (s.row (.gsl 0 q)), .int .i64 0]) [.seq 1 q (pk (yT s q P))]).ok Tryz.prog o lp n0 R) : t.ok Tryz.prog o lp n0 R := by
  have hq := mp.1.2.2.2
  refine get_own (yT s q P) hd hs hm (fun i hi => ⟨by rw [by_T], rfl⟩) (by omega) (fun _ => ?_) fun h => absurd (isSt_T s q P hr mp) h
  rw [stY_T s q P hr mp, n1_46 s q P hq, Int.toNat_natCast]
  exact hk
/-- what was cut is none. -/
theorem get_cut {b m q m0 : Nat} {s : StI} {P : Nat → Int} (hd : t.hd = .call 10 [.gsl b m]) (hs : seqAt t.heap b = some (1, m0, rowT s q P)) (hm : m ≤ m0) (hc : m < 47 + q) (mp : s.may q P) (hk : (t.aft (.tuple [.agg lpZ, .int .i64 5]) []).ok Tryz.prog o lp n0 R) : t.ok Tryz.prog o lp n0 R := by
  have hq := mp.1.2.2.2
  exact get_own (yT s q P) hd hs hm (fun i hi => ⟨by rw [by_T], rfl⟩) (by omega) (fun h => absurd h (no_len (n1_46 s q P hq) (by omega))) fun _ => hk
/-- nor what has a byte more. -/
theorem get_more {b q m0 : Nat} {s : StI} {P : Nat → Int} {g : Nat → List AV} (hd : t.hd = .call 10 [.gsl b (47 + q + 1)]) (hs : seqAt t.heap b = some (1, m0, glue (47 + q) (rowT s q P) g)) (hg : g 0 = [.int .u8 0]) (hm : 47 + q + 1 ≤ m0) (mp : s.may q P) (hk : (t.aft (.tuple [.agg lpZ, .int .i64 5]) []).ok Tryz.prog o lp n0 R) : t.ok Tryz.prog o lp n0 R := by
  have hq := mp.1.2.2.2
  refine get_own (y0 (47 + q) (yT s q P)) hd hs hm (fun i hi => ?_) (by omega) (fun h => absurd h (no_len (y0_46 (by omega) (n1_46 s q P hq)) (by omega))) fun _ => hk
  unfold glue
  by_cases h : i < 47 + q
  · rw [if_pos h]
    refine ⟨?_, rfl⟩
    rw [← by_T]
    unfold by8 y0
    rw [if_pos h]
  · rw [if_neg h]
    obtain rfl : i = 47 + q := by omega
    rw [Nat.sub_self, hg]
    refine ⟨?_, rfl⟩
    unfold by8 y0
    rw [if_neg h]
    rfl
end
end Go.Proofs.YtkebdfbdneggkaaGreat
namespace Go.Proofs.YtkebdfbdneggkaaGreat
open Go Go.RowKit Sv
set_option linter.unusedVariables false
set_option linter.unusedSimpArgs false
set_option maxRecDepth 100000
set_option maxHeartbeats 0
def rmS (i : Nat) : List AV := [.top, .ptr 0 0, .top, .top, .top, .sint .i64 (i : Int), .top, .top, .top, .top, .top, .top, .top, .top, .top, .top, .top, .top, .top, .top, .top, .top, .top, .top, .top, .top, .top, .top, .top, .top, .top, .top, .top, .top, .top, .top, .top, .top, .top, .top, .top, .top, .top, .top, .top, .top, .top, .top, .top, .top, .top, .top, .top, .top, .top, .top, .top, .top, .top, .top, .top, .top, .top, .top, .top, .top, .top, .top, .top, .top, .top, .top, .top, .top, .top, .top, .top, .top, .top, .top, .top, .top, .top, .top, .top, .top, .top, .top, .top, .top, .top, .top, .top, .top, .top, .top, .top]
theorem rmayT (s : StI) (q : Nat) (P : Nat → Int) (hq : q ≤ 1099511627776) (hr : s.rng) : Runs Tryz.prog 8 [.agg (s.row (ints q P))] fun x G => G = [] ∧ ((x = .bool true ∧ s.may q P) ∨ (x = .bool false ∧ ¬ s.may q P)) := by
  unfold StI.rng at hr
  refine runs_treeF plain mixed (fun _ => false) (fun r => !(Nat.beq r 3)) 60 ?_
  refine ok_sk (.both (.stop []) (.both (.stop []) (.both (.stop []) (.both (.stop []) (.both (.stop []) (.both (.stop []) (.both (.stop []) (.both (.stop []) (.stop [0, 1]))))))))) (S := .fork (decide (s.w < (-1 : Int))) (.stop (Hd.leaf (.bool false)) [] ([])) (.fork (decide (255 < s.w)) (.stop (Hd.leaf (.bool false)) [] ([])) (.fork (decide (s.J < (-1 : Int))) (.stop (Hd.leaf (.bool false)) [] ([])) (.fork (decide (255 < s.J)) (.stop (Hd.leaf (.bool false)) [] ([])) (.fork (decide (s.K < (-1 : Int))) (.stop (Hd.leaf (.bool false)) [] ([])) (.fork (decide (255 < s.K)) (.stop (Hd.leaf (.bool false)) [] ([])) (.fork (decide (s.t < (-1 : Int))) (.stop (Hd.leaf (.bool false)) [] ([])) (.fork (decide (255 < s.t)) (.stop (Hd.leaf (.bool false)) [] ([])) (.stop (Hd.loop 53 [.agg (s.row (ints q P)), .ptr 0 0, .bool false, .slice 1 0 4 4 true, .int .i64 4, .int .i64 0, .ptr 0 1, .sint .i64 s.w, .ptr 0 9, .sint .i64 s.J, .ptr 0 8, .sint .i64 s.K, .ptr 0 2, .ptr 0 4, .sint .i64 s.t, .slice 1 0 4 4 true, .int .i64 4, .slice 1 0 4 4 true, .int .i64 4, .bool false, .int .i64 3, .int .i64 4, .slice 1 0 4 4 true, .int .i64 3, .ptr 1 3, .sint .i64 s.t, .bool false, .bool false, .slice 1 0 4 4 true, .int .i64 3, .ptr 1 3, .sint .i64 s.t, .bool false, .bool false, .tuple [], .tuple [], .tuple [], .tuple [], .tuple [], .tuple [], .tuple [], .tuple [], .tuple [], .tuple [], .tuple [], .tuple [], .tuple [], .tuple [], .tuple [], .tuple [], .tuple [], .tuple [], .tuple [], .tuple [], .tuple [], .tuple [], .tuple [], .tuple [], .tuple [], .tuple [], .tuple [], .tuple [], .tuple [], .tuple [], .tuple [], .tuple [], .tuple [], .tuple [], .tuple [], .tuple [], .tuple [], .tuple [], .tuple [], .tuple [], .tuple [], .tuple [], .tuple [], .tuple [], .tuple [], .tuple [], .tuple [], .tuple [], .tuple [], .tuple [], .tuple [], .tuple [], .tuple [], .tuple [], .tuple [], .tuple [], .tuple [], .tuple [], .tuple [], .tuple [], .tuple [], .tuple [], .tuple []]) [0, 1] ([(some (Blk.cells 0 none (s.row (ints q P))), none), bk 1 [.sint .i64 s.w, .sint .i64 s.J, .sint .i64 s.K, .sint .i64 s.t]])))))))))) (by kernel_rfl) ?_
  refine hold_forkD (fun h0 => ?_) (fun h0 => ?_)
  ·
   refine hold_stop (fun hd hb => ?_)
   exact ok_leaf0 hd rfl ⟨rfl, .inr ⟨rfl, fun h => by have h2 := h.2.1; omega⟩⟩
  refine hold_forkD (fun h1 => ?_) (fun h1 => ?_)
  ·
   refine hold_stop (fun hd hb => ?_)
   exact ok_leaf0 hd rfl ⟨rfl, .inr ⟨rfl, fun h => by have h2 := h.2.1; omega⟩⟩
  refine hold_forkD (fun h2 => ?_) (fun h2 => ?_)
  ·
   refine hold_stop (fun hd hb => ?_)
   exact ok_leaf0 hd rfl ⟨rfl, .inr ⟨rfl, fun h => by have h2 := h.2.1; omega⟩⟩
  refine hold_forkD (fun h3 => ?_) (fun h3 => ?_)
  ·
   refine hold_stop (fun hd hb => ?_)
   exact ok_leaf0 hd rfl ⟨rfl, .inr ⟨rfl, fun h => by have h2 := h.2.1; omega⟩⟩
  refine hold_forkD (fun h4 => ?_) (fun h4 => ?_)
  ·
   refine hold_stop (fun hd hb => ?_)
   exact ok_leaf0 hd rfl ⟨rfl, .inr ⟨rfl, fun h => by have h2 := h.2.1; omega⟩⟩
  refine hold_forkD (fun h5 => ?_) (fun h5 => ?_)
  ·
   refine hold_stop (fun hd hb => ?_)
   exact ok_leaf0 hd rfl ⟨rfl, .inr ⟨rfl, fun h => by have h2 := h.2.1; omega⟩⟩
  refine hold_forkD (fun h6 => ?_) (fun h6 => ?_)
  ·
   refine hold_stop (fun hd hb => ?_)
   exact ok_leaf0 hd rfl ⟨rfl, .inr ⟨rfl, fun h => by have h2 := h.2.1; omega⟩⟩
  refine hold_forkD (fun h7 => ?_) (fun h7 => ?_)
  ·
   refine hold_stop (fun hd hb => ?_)
   exact ok_leaf0 hd rfl ⟨rfl, .inr ⟨rfl, fun h => by have h2 := h.2.1; omega⟩⟩
  refine hold_stop (fun hd hb => ?_)
  refine ok_loop hd (X := {i : Nat // i ≤ q ∧ ∀ j, j < i → -1 ≤ P j ∧ P j ≤ 254}) (fun i => rmS i.1) (fun _ => [.cells none (s.row (ints q P))]) (fun i => q - i.1) [some 0] ⟨0, by omega, fun j hj => absurd hj (Nat.not_lt_zero j)⟩ (fits_cells (look_hd hb) (by simp [rmS, fitsA, fitA, nf]) (fitsA_self _ rfl)) ?_
  rintro ⟨i, i1, im⟩
  refine ok_sk (.both (.l (.both (.stop []) (.l (.both (.stop []) (.l (.stop [0])))))) (.both (.both (.both (.both (.both (.both (.both (.both (.stop []) (.stop [])) (.stop [])) (.stop [])) (.stop [])) (.stop [])) (.stop [])) (.stop [])) (.stop []))) (S := .fork (decide ((↑i : Int) < (↑q : Int))) (.left (decide (0 ≤ (↑i : Int) ∧ (↑i : Int).toNat < q)) (.fork (decide (P (↑i : Int).toNat < (-1 : Int))) (.stop (Hd.leaf (.bool false)) [] ([])) (.left (decide (0 ≤ (↑i : Int) ∧ (↑i : Int).toNat < q)) (.fork (decide (254 < P (↑i : Int).toNat)) (.stop (Hd.leaf (.bool false)) [] ([])) (.left (decide ((-9223372036854775808 : Int) ≤ (↑i : Int) + 1 ∧ (↑i : Int) + 1 ≤ 9223372036854775807)) (.stop (Hd.again (again' (fun (i : { i : Nat // i ≤ q ∧ ∀ (j : Nat), j < i → (-1 : Int) ≤ P j ∧ P j ≤ 254 }) => rmS i.val) (fun (x : { i : Nat // i ≤ q ∧ ∀ (j : Nat), j < i → (-1 : Int) ≤ P j ∧ P j ≤ 254 }) => [NewB.cells none (s.row (ints q P))]) (fun (i : { i : Nat // i ≤ q ∧ ∀ (j : Nat), j < i → (-1 : Int) ≤ P j ∧ P j ≤ 254 }) => q - i.val) ⟨i, ⟨i1, im⟩⟩) [.top, .ptr 0 0, .top, .top, .top, .sint .i64 ((↑i : Int) + 1), .top, .top, .top, .top, .top, .top, .top, .top, .top, .top, .top, .top, .top, .top, .top, .top, .top, .top, .top, .top, .top, .top, .top, .top, .top, .top, .top, .top, .sint .i64 (↑i : Int), .ptr 0 11, .data 1 q fun (i : Nat) => [.sint .i64 (P i)], .sint .i64 (↑q : Int), .bool true, .sint .i64 (↑i : Int), .sint .i64 ((↑i : Int) + 1), .ptr 0 11, .data 1 q fun (i : Nat) => [.sint .i64 (P i)], .sint .i64 (↑i : Int), AV.dptr [.sint .i64 (P (↑i : Int).toNat)], .sint .i64 (P (↑i : Int).toNat), .bool false, .bool false, .ptr 0 11, .data 1 q fun (i : Nat) => [.sint .i64 (P i)], .sint .i64 (↑i : Int), AV.dptr [.sint .i64 (P (↑i : Int).toNat)], .sint .i64 (P (↑i : Int).toNat), .bool false, .bool false, .top, .top, .top, .top, .top, .top, .top, .top, .top, .top, .top, .top, .top, .top, .top, .top, .top, .top, .top, .top, .top, .top, .top, .top, .top, .top, .top, .top, .top, .top, .top, .top, .top, .top, .top, .top, .top, .top, .top, .top, .top, .top]) [0] ([(some (Blk.cells 0 none (s.row (ints q P))), none)]))))))) (.fork (decide (1 ≤ s.d)) (.fork (decide (s.d ≤ 12)) (.fork (decide ((-1 : Int) ≤ s.N)) (.fork (decide (s.N ≤ 1073741824)) (.fork (decide (s.k ≤ 7)) (.fork (decide ((-1 : Int) ≤ s.a)) (.fork (decide (s.a ≤ 1152921504606846976)) (.fork (decide ((↑q : Int) ≤ 255)) (.stop (Hd.leaf (.bool true)) [] ([])) (.stop (Hd.leaf (.bool false)) [] ([]))) (.stop (Hd.leaf (.bool false)) [] ([]))) (.stop (Hd.leaf (.bool false)) [] ([]))) (.stop (Hd.leaf (.bool false)) [] ([]))) (.stop (Hd.leaf (.bool false)) [] ([]))) (.stop (Hd.leaf (.bool false)) [] ([]))) (.stop (Hd.leaf (.bool false)) [] ([]))) (.stop (Hd.leaf (.bool false)) [] ([])))) (by kernel_rfl) ?_
  refine hold_forkD (fun h9 => ?_) (fun h9 => ?_)
  ·
   refine hl (bc fun h10 => by omega) ?_
   refine hold_forkD (fun h10 => ?_) (fun h10 => ?_)
   ·
    refine hold_stop (fun hd hb => ?_)
    exact ok_leaf0 hd rfl ⟨rfl, .inr ⟨rfl, fun h => by have h4 := h.2.2.2.1 i (by omega); rw [Int.toNat_natCast] at *; omega⟩⟩
   refine hl (bc fun h11 => by omega) ?_
   refine hold_forkD (fun h11 => ?_) (fun h11 => ?_)
   ·
    refine hold_stop (fun hd hb => ?_)
    exact ok_leaf0 hd rfl ⟨rfl, .inr ⟨rfl, fun h => by have h4 := h.2.2.2.1 i (by omega); rw [Int.toNat_natCast] at *; omega⟩⟩
   refine hl (bc fun h12 => by omega) ?_
   refine hold_stop (fun hd hb => ?_)
   refine ok_again hd [some 0] ⟨i + 1, by omega, fun j hj => ?_⟩ (by show q - (i + 1) < q - i; omega) (fits_cells hb (by simp [rmS, fitsA, fitA, nf]) (fitsA_self _ rfl))
   by_cases e : j < i
   · exact im j e
   · obtain rfl : j = i := by omega
     rw [Int.toNat_natCast] at *
     omega
  refine hold_forkD (fun h10 => ?_) (fun h10 => ?_)
  ·
   refine hold_forkD (fun h11 => ?_) (fun h11 => ?_)
   ·
    refine hold_forkD (fun h12 => ?_) (fun h12 => ?_)
    ·
     refine hold_forkD (fun h13 => ?_) (fun h13 => ?_)
     ·
      refine hold_forkD (fun h14 => ?_) (fun h14 => ?_)
      ·
       refine hold_forkD (fun h15 => ?_) (fun h15 => ?_)
       ·
        refine hold_forkD (fun h16 => ?_) (fun h16 => ?_)
        ·
         refine hold_forkD (fun h17 => ?_) (fun h17 => ?_)
         ·
          refine hold_stop (fun hd hb => ?_)
          exact ok_leaf0 hd rfl ⟨rfl, .inl ⟨rfl, ⟨by omega, by omega, by omega, fun j hj => im j (by omega), by omega⟩⟩⟩
         refine hold_stop (fun hd hb => ?_)
         exact ok_leaf0 hd rfl ⟨rfl, .inr ⟨rfl, fun h => by have h1 := h.1; have h2 := h.2.1; have h3 := h.2.2.1; have h5 := h.2.2.2.2; omega⟩⟩
        refine hold_stop (fun hd hb => ?_)
        exact ok_leaf0 hd rfl ⟨rfl, .inr ⟨rfl, fun h => by have h1 := h.1; have h2 := h.2.1; have h3 := h.2.2.1; have h5 := h.2.2.2.2; omega⟩⟩
       refine hold_stop (fun hd hb => ?_)
       exact ok_leaf0 hd rfl ⟨rfl, .inr ⟨rfl, fun h => by have h1 := h.1; have h2 := h.2.1; have h3 := h.2.2.1; have h5 := h.2.2.2.2; omega⟩⟩
      refine hold_stop (fun hd hb => ?_)
      exact ok_leaf0 hd rfl ⟨rfl, .inr ⟨rfl, fun h => by have h1 := h.1; have h2 := h.2.1; have h3 := h.2.2.1; have h5 := h.2.2.2.2; omega⟩⟩
     refine hold_stop (fun hd hb => ?_)
     exact ok_leaf0 hd rfl ⟨rfl, .inr ⟨rfl, fun h => by have h1 := h.1; have h2 := h.2.1; have h3 := h.2.2.1; have h5 := h.2.2.2.2; omega⟩⟩
    refine hold_stop (fun hd hb => ?_)
    exact ok_leaf0 hd rfl ⟨rfl, .inr ⟨rfl, fun h => by have h1 := h.1; have h2 := h.2.1; have h3 := h.2.2.1; have h5 := h.2.2.2.2; omega⟩⟩
   refine hold_stop (fun hd hb => ?_)
   exact ok_leaf0 hd rfl ⟨rfl, .inr ⟨rfl, fun h => by have h1 := h.1; have h2 := h.2.1; have h3 := h.2.2.1; have h5 := h.2.2.2.2; omega⟩⟩
  refine hold_stop (fun hd hb => ?_)
  exact ok_leaf0 hd rfl ⟨rfl, .inr ⟨rfl, fun h => by have h1 := h.1; have h2 := h.2.1; have h3 := h.2.2.1; have h5 := h.2.2.2.2; omega⟩⟩
end Go.Proofs.YtkebdfbdneggkaaGreat
namespace Go.Proofs.YtkebdfbdneggkaaGreat
open Go Go.RowKit Sv
set_option linter.unusedVariables false
set_option linter.unusedSimpArgs false
set_option maxRecDepth 100000
set_option maxHeartbeats 0
def StI.hdD (s : StI) (q : Nat) : List Int := [(s.d / 1 % 256), ((s.w + 1) / 256 % 256), ((s.w + 1) / 1 % 256), ((s.J + 1) / 256 % 256), ((s.J + 1) / 1 % 256), ((s.K + 1) / 256 % 256), ((s.K + 1) / 1 % 256), ((s.N + 1) / 16777216 % 256), ((s.N + 1) / 65536 % 256), ((s.N + 1) / 256 % 256), ((s.N + 1) / 1 % 256), (s.k / 1 % 256), (s.n / 72057594037927936 % 256), (s.n / 281474976710656 % 256), (s.n / 1099511627776 % 256), (s.n / 4294967296 % 256), (s.n / 16777216 % 256), (s.n / 65536 % 256), (s.n / 256 % 256), (s.n / 1 % 256), ((s.t + 1) / 256 % 256), ((s.t + 1) / 1 % 256), ((s.a + 1) / 72057594037927936 % 256), ((s.a + 1) / 281474976710656 % 256), ((s.a + 1) / 1099511627776 % 256), ((s.a + 1) / 4294967296 % 256), ((s.a + 1) / 16777216 % 256), ((s.a + 1) / 65536 % 256), ((s.a + 1) / 256 % 256), ((s.a + 1) / 1 % 256), (s.r / 72057594037927936 % 256), (s.r / 281474976710656 % 256), (s.r / 1099511627776 % 256), (s.r / 4294967296 % 256), (s.r / 16777216 % 256), (s.r / 65536 % 256), (s.r / 256 % 256), (s.r / 1 % 256), (s.o / 72057594037927936 % 256), (s.o / 281474976710656 % 256), (s.o / 1099511627776 % 256), (s.o / 4294967296 % 256), (s.o / 16777216 % 256), (s.o / 65536 % 256), (s.o / 256 % 256), (s.o / 1 % 256), ((q : Int) / 1 % 256)]
theorem hdD_eq (s : StI) (q : Nat) : s.hdD q = s.hd q := by
  unfold StI.hdD StI.hd
  simp only [Int.ediv_one]
theorem rowT_hdD (s : StI) (q : Nat) (P : Nat → Int) {cs : List AV} (e : cs = (s.hdD q).map fun z => AV.sint .u8 z) : ∀ i, i < 47 → rowT s q P i = (cs.drop (i * 1)).take 1 ∧ nfs (rowT s q P i) = true := by
  rw [hdD_eq] at e
  exact rowT_hd s q P e
def ppT (i : Nat) : List AV := [.top, .ptr 0 0, .top, .gsl 1 (47 + i), .sint .i64 (i : Int), .top, .top, .top, .top, .top, .top, .top, .top, .top, .top, .top, .top, .top, .top, .top, .top, .top, .top, .top, .top, .top, .top, .top, .top, .top, .top, .top, .top, .top, .top, .top, .top, .top, .top, .top, .top, .top, .top, .top, .top, .top, .top, .top, .top, .top, .top, .top, .top, .top, .top, .top, .top, .top, .top, .top, .top, .top, .top, .top, .top, .top, .top, .top, .top, .top, .top, .top, .top, .top, .top, .top, .top, .top, .top, .top, .top, .top, .top, .top, .top, .top, .top, .top, .top, .top, .top, .top, .top, .top]
def ppG (s : StI) (q : Nat) (P : Nat → Int) (i : Nat) : List NewB := [.cells none (s.row (ints q P)), .seq 1 (47 + i) (rowT s q P)]
theorem rputT (s : StI) (q : Nat) (P : Nat → Int) (hq : q ≤ 1099511627776) (hr : s.rng) : Runs Tryz.prog 9 [.agg (s.row (ints q P))] fun x G => (x = .nilSlice ∧ G = [] ∧ ¬ s.may q P) ∨ (s.may q P ∧ x = .gsl 0 (47 + q) ∧ G = [.seq 1 (47 + q) (rowT s q P)]) := by
  have hr' := hr
  unfold StI.rng at hr'
  refine runs_treeF plain mixed (fun g => Nat.beq g 8) (fun _ => true) 60 ?_
  refine ok_sk (.stop []) (S := .stop (Hd.call 8 [.agg (s.row (ints q P))]) [] ([])) (by kernel_rfl) ?_
  refine hold_stop (fun hd hb => ?_)
  refine ok_call0 hd (rmayT s q P hq hr) rfl ?_
  rintro x G ⟨rfl, ⟨rfl, my⟩ | ⟨rfl, my⟩⟩ <;> refine ⟨rfl, fun g hg => (by cases hg), ?_⟩
  have m1 := my.1
  have m2 := my.2.1
  have m3 := my.2.2.1
  have m4 := my.2.2.2.1
  have m5 := my.2.2.2.2
  ·
   refine ok_sk (.l (.r (.l (.l (.r (.l (.l (.r (.l (.l (.r (.l (.l (.r (.l (.r (.l (.l (.r (.l (.l (.l (.r (.stop [0, 117, 3, 9, 15, 21, 31, 35, 53, 59, 77, 95, 113])))))))))))))))))))))))) (S := .left (decide (0 ≤ s.d ∧ s.d ≤ 18446744073709551615)) (.right (decide (0 < s.d / 256)) (.left (decide ((-9223372036854775808 : Int) ≤ s.w + 1 ∧ s.w + 1 ≤ 9223372036854775807)) (.left (decide (0 ≤ s.w + 1 ∧ s.w + 1 ≤ 18446744073709551615)) (.right (decide (0 < (s.w + 1) / 65536)) (.left (decide ((-9223372036854775808 : Int) ≤ s.J + 1 ∧ s.J + 1 ≤ 9223372036854775807)) (.left (decide (0 ≤ s.J + 1 ∧ s.J + 1 ≤ 18446744073709551615)) (.right (decide (0 < (s.J + 1) / 65536)) (.left (decide ((-9223372036854775808 : Int) ≤ s.K + 1 ∧ s.K + 1 ≤ 9223372036854775807)) (.left (decide (0 ≤ s.K + 1 ∧ s.K + 1 ≤ 18446744073709551615)) (.right (decide (0 < (s.K + 1) / 65536)) (.left (decide ((-9223372036854775808 : Int) ≤ s.N + 1 ∧ s.N + 1 ≤ 9223372036854775807)) (.left (decide (0 ≤ s.N + 1 ∧ s.N + 1 ≤ 18446744073709551615)) (.right (decide (0 < (s.N + 1) / 4294967296)) (.left (decide (0 ≤ s.k ∧ s.k ≤ 18446744073709551615)) (.right (decide (0 < s.k / 256)) (.left (decide ((-9223372036854775808 : Int) ≤ s.t + 1 ∧ s.t + 1 ≤ 9223372036854775807)) (.left (decide (0 ≤ s.t + 1 ∧ s.t + 1 ≤ 18446744073709551615)) (.right (decide (0 < (s.t + 1) / 65536)) (.left (decide ((-9223372036854775808 : Int) ≤ s.a + 1 ∧ s.a + 1 ≤ 9223372036854775807)) (.left (decide (0 ≤ s.a + 1 ∧ s.a + 1 ≤ 18446744073709551615)) (.left (decide (0 ≤ (↑q : Int) ∧ (↑q : Int) ≤ 18446744073709551615)) (.right (decide (0 < (↑q : Int) / 256)) (.stop (Hd.loop 42 [.agg (s.row (ints q P)), .ptr 0 0, .nilSlice, .slice 117 0 47 47 false, .int .i64 0, .agg (s.row (ints q P)), .bool true, .bool false, .ptr 0 0, .sint .u8 s.d, .sint .u64 s.d, .slice 3 0 1 1 false, .slice 3 0 1 1 false, .ptr 0 1, .sint .i64 s.w, .sint .i64 (s.w + 1), .sint .u64 (s.w + 1), .slice 9 0 3 3 false, .slice 9 0 3 3 false, .ptr 0 9, .sint .i64 s.J, .sint .i64 (s.J + 1), .sint .u64 (s.J + 1), .slice 15 0 5 5 false, .slice 15 0 5 5 false, .ptr 0 8, .sint .i64 s.K, .sint .i64 (s.K + 1), .sint .u64 (s.K + 1), .slice 21 0 7 7 false, .slice 21 0 7 7 false, .ptr 0 10, .sint .i64 s.N, .sint .i64 (s.N + 1), .sint .u64 (s.N + 1), .slice 31 0 11 11 false, .slice 31 0 11 11 false, .ptr 0 2, .ptr 0 2, .sint .u8 s.k, .sint .u64 s.k, .slice 35 0 12 12 false, .slice 35 0 12 12 false, .ptr 0 2, .ptr 0 3, .sint .u64 s.n, .slice 53 0 20 20 false, .slice 53 0 20 20 false, .ptr 0 2, .ptr 0 4, .sint .i64 s.t, .sint .i64 (s.t + 1), .sint .u64 (s.t + 1), .slice 59 0 22 22 false, .slice 59 0 22 22 false, .ptr 0 2, .ptr 0 5, .sint .i64 s.a, .sint .i64 (s.a + 1), .sint .u64 (s.a + 1), .slice 77 0 30 30 false, .slice 77 0 30 30 false, .ptr 0 2, .ptr 0 6, .sint .u64 s.r, .slice 95 0 38 38 false, .slice 95 0 38 38 false, .ptr 0 2, .ptr 0 7, .sint .u64 s.o, .slice 113 0 46 46 false, .slice 113 0 46 46 false, .ptr 0 11, .data 1 q fun (i : Nat) => [.sint .i64 (P i)], .sint .i64 (↑q : Int), .sint .u64 (↑q : Int), .slice 117 0 47 47 false, .tuple [], .tuple [], .tuple [], .tuple [], .tuple [], .tuple [], .tuple [], .tuple [], .tuple [], .tuple [], .tuple [], .tuple [], .tuple [], .tuple [], .tuple [], .tuple [], .tuple []]) [0, 117, 3, 9, 15, 21, 31, 35, 53, 59, 77, 95, 113] ([(some (Blk.cells 0 none (s.row (ints q P))), none), (some (Blk.cells 115 (some 1) [.sint .u8 (s.d / 1 % 256), .sint .u8 ((s.w + 1) / 256 % 256), .sint .u8 ((s.w + 1) / 1 % 256), .sint .u8 ((s.J + 1) / 256 % 256), .sint .u8 ((s.J + 1) / 1 % 256), .sint .u8 ((s.K + 1) / 256 % 256), .sint .u8 ((s.K + 1) / 1 % 256), .sint .u8 ((s.N + 1) / 16777216 % 256), .sint .u8 ((s.N + 1) / 65536 % 256), .sint .u8 ((s.N + 1) / 256 % 256), .sint .u8 ((s.N + 1) / 1 % 256), .sint .u8 (s.k / 1 % 256), .sint .u8 (s.n / 72057594037927936 % 256), .sint .u8 (s.n / 281474976710656 % 256), .sint .u8 (s.n / 1099511627776 % 256), .sint .u8 (s.n / 4294967296 % 256), .sint .u8 (s.n / 16777216 % 256), .sint .u8 (s.n / 65536 % 256), .sint .u8 (s.n / 256 % 256), .sint .u8 (s.n / 1 % 256), .sint .u8 ((s.t + 1) / 256 % 256), .sint .u8 ((s.t + 1) / 1 % 256), .sint .u8 ((s.a + 1) / 72057594037927936 % 256), .sint .u8 ((s.a + 1) / 281474976710656 % 256), .sint .u8 ((s.a + 1) / 1099511627776 % 256), .sint .u8 ((s.a + 1) / 4294967296 % 256), .sint .u8 ((s.a + 1) / 16777216 % 256), .sint .u8 ((s.a + 1) / 65536 % 256), .sint .u8 ((s.a + 1) / 256 % 256), .sint .u8 ((s.a + 1) / 1 % 256), .sint .u8 (s.r / 72057594037927936 % 256), .sint .u8 (s.r / 281474976710656 % 256), .sint .u8 (s.r / 1099511627776 % 256), .sint .u8 (s.r / 4294967296 % 256), .sint .u8 (s.r / 16777216 % 256), .sint .u8 (s.r / 65536 % 256), .sint .u8 (s.r / 256 % 256), .sint .u8 (s.r / 1 % 256), .sint .u8 (s.o / 72057594037927936 % 256), .sint .u8 (s.o / 281474976710656 % 256), .sint .u8 (s.o / 1099511627776 % 256), .sint .u8 (s.o / 4294967296 % 256), .sint .u8 (s.o / 16777216 % 256), .sint .u8 (s.o / 65536 % 256), .sint .u8 (s.o / 256 % 256), .sint .u8 (s.o / 1 % 256), .sint .u8 ((↑q : Int) / 1 % 256)]), none), (some (Blk.cells 3 (some 1) [.sint .u8 (s.d / 1 % 256)]), none), (some (Blk.cells 5 (some 1) [.sint .u8 (s.d / 1 % 256), .sint .u8 ((s.w + 1) / 256 % 256), .sint .u8 ((s.w + 1) / 1 % 256)]), none), (some (Blk.cells 11 (some 1) [.sint .u8 (s.d / 1 % 256), .sint .u8 ((s.w + 1) / 256 % 256), .sint .u8 ((s.w + 1) / 1 % 256), .sint .u8 ((s.J + 1) / 256 % 256), .sint .u8 ((s.J + 1) / 1 % 256)]), none), (some (Blk.cells 17 (some 1) [.sint .u8 (s.d / 1 % 256), .sint .u8 ((s.w + 1) / 256 % 256), .sint .u8 ((s.w + 1) / 1 % 256), .sint .u8 ((s.J + 1) / 256 % 256), .sint .u8 ((s.J + 1) / 1 % 256), .sint .u8 ((s.K + 1) / 256 % 256), .sint .u8 ((s.K + 1) / 1 % 256)]), none), (some (Blk.cells 23 (some 1) [.sint .u8 (s.d / 1 % 256), .sint .u8 ((s.w + 1) / 256 % 256), .sint .u8 ((s.w + 1) / 1 % 256), .sint .u8 ((s.J + 1) / 256 % 256), .sint .u8 ((s.J + 1) / 1 % 256), .sint .u8 ((s.K + 1) / 256 % 256), .sint .u8 ((s.K + 1) / 1 % 256), .sint .u8 ((s.N + 1) / 16777216 % 256), .sint .u8 ((s.N + 1) / 65536 % 256), .sint .u8 ((s.N + 1) / 256 % 256), .sint .u8 ((s.N + 1) / 1 % 256)]), none), (some (Blk.cells 33 (some 1) [.sint .u8 (s.d / 1 % 256), .sint .u8 ((s.w + 1) / 256 % 256), .sint .u8 ((s.w + 1) / 1 % 256), .sint .u8 ((s.J + 1) / 256 % 256), .sint .u8 ((s.J + 1) / 1 % 256), .sint .u8 ((s.K + 1) / 256 % 256), .sint .u8 ((s.K + 1) / 1 % 256), .sint .u8 ((s.N + 1) / 16777216 % 256), .sint .u8 ((s.N + 1) / 65536 % 256), .sint .u8 ((s.N + 1) / 256 % 256), .sint .u8 ((s.N + 1) / 1 % 256), .sint .u8 (s.k / 1 % 256)]), none), (some (Blk.cells 37 (some 1) [.sint .u8 (s.d / 1 % 256), .sint .u8 ((s.w + 1) / 256 % 256), .sint .u8 ((s.w + 1) / 1 % 256), .sint .u8 ((s.J + 1) / 256 % 256), .sint .u8 ((s.J + 1) / 1 % 256), .sint .u8 ((s.K + 1) / 256 % 256), .sint .u8 ((s.K + 1) / 1 % 256), .sint .u8 ((s.N + 1) / 16777216 % 256), .sint .u8 ((s.N + 1) / 65536 % 256), .sint .u8 ((s.N + 1) / 256 % 256), .sint .u8 ((s.N + 1) / 1 % 256), .sint .u8 (s.k / 1 % 256), .sint .u8 (s.n / 72057594037927936 % 256), .sint .u8 (s.n / 281474976710656 % 256), .sint .u8 (s.n / 1099511627776 % 256), .sint .u8 (s.n / 4294967296 % 256), .sint .u8 (s.n / 16777216 % 256), .sint .u8 (s.n / 65536 % 256), .sint .u8 (s.n / 256 % 256), .sint .u8 (s.n / 1 % 256)]), none), (some (Blk.cells 55 (some 1) [.sint .u8 (s.d / 1 % 256), .sint .u8 ((s.w + 1) / 256 % 256), .sint .u8 ((s.w + 1) / 1 % 256), .sint .u8 ((s.J + 1) / 256 % 256), .sint .u8 ((s.J + 1) / 1 % 256), .sint .u8 ((s.K + 1) / 256 % 256), .sint .u8 ((s.K + 1) / 1 % 256), .sint .u8 ((s.N + 1) / 16777216 % 256), .sint .u8 ((s.N + 1) / 65536 % 256), .sint .u8 ((s.N + 1) / 256 % 256), .sint .u8 ((s.N + 1) / 1 % 256), .sint .u8 (s.k / 1 % 256), .sint .u8 (s.n / 72057594037927936 % 256), .sint .u8 (s.n / 281474976710656 % 256), .sint .u8 (s.n / 1099511627776 % 256), .sint .u8 (s.n / 4294967296 % 256), .sint .u8 (s.n / 16777216 % 256), .sint .u8 (s.n / 65536 % 256), .sint .u8 (s.n / 256 % 256), .sint .u8 (s.n / 1 % 256), .sint .u8 ((s.t + 1) / 256 % 256), .sint .u8 ((s.t + 1) / 1 % 256)]), none), (some (Blk.cells 61 (some 1) [.sint .u8 (s.d / 1 % 256), .sint .u8 ((s.w + 1) / 256 % 256), .sint .u8 ((s.w + 1) / 1 % 256), .sint .u8 ((s.J + 1) / 256 % 256), .sint .u8 ((s.J + 1) / 1 % 256), .sint .u8 ((s.K + 1) / 256 % 256), .sint .u8 ((s.K + 1) / 1 % 256), .sint .u8 ((s.N + 1) / 16777216 % 256), .sint .u8 ((s.N + 1) / 65536 % 256), .sint .u8 ((s.N + 1) / 256 % 256), .sint .u8 ((s.N + 1) / 1 % 256), .sint .u8 (s.k / 1 % 256), .sint .u8 (s.n / 72057594037927936 % 256), .sint .u8 (s.n / 281474976710656 % 256), .sint .u8 (s.n / 1099511627776 % 256), .sint .u8 (s.n / 4294967296 % 256), .sint .u8 (s.n / 16777216 % 256), .sint .u8 (s.n / 65536 % 256), .sint .u8 (s.n / 256 % 256), .sint .u8 (s.n / 1 % 256), .sint .u8 ((s.t + 1) / 256 % 256), .sint .u8 ((s.t + 1) / 1 % 256), .sint .u8 ((s.a + 1) / 72057594037927936 % 256), .sint .u8 ((s.a + 1) / 281474976710656 % 256), .sint .u8 ((s.a + 1) / 1099511627776 % 256), .sint .u8 ((s.a + 1) / 4294967296 % 256), .sint .u8 ((s.a + 1) / 16777216 % 256), .sint .u8 ((s.a + 1) / 65536 % 256), .sint .u8 ((s.a + 1) / 256 % 256), .sint .u8 ((s.a + 1) / 1 % 256)]), none), (some (Blk.cells 79 (some 1) [.sint .u8 (s.d / 1 % 256), .sint .u8 ((s.w + 1) / 256 % 256), .sint .u8 ((s.w + 1) / 1 % 256), .sint .u8 ((s.J + 1) / 256 % 256), .sint .u8 ((s.J + 1) / 1 % 256), .sint .u8 ((s.K + 1) / 256 % 256), .sint .u8 ((s.K + 1) / 1 % 256), .sint .u8 ((s.N + 1) / 16777216 % 256), .sint .u8 ((s.N + 1) / 65536 % 256), .sint .u8 ((s.N + 1) / 256 % 256), .sint .u8 ((s.N + 1) / 1 % 256), .sint .u8 (s.k / 1 % 256), .sint .u8 (s.n / 72057594037927936 % 256), .sint .u8 (s.n / 281474976710656 % 256), .sint .u8 (s.n / 1099511627776 % 256), .sint .u8 (s.n / 4294967296 % 256), .sint .u8 (s.n / 16777216 % 256), .sint .u8 (s.n / 65536 % 256), .sint .u8 (s.n / 256 % 256), .sint .u8 (s.n / 1 % 256), .sint .u8 ((s.t + 1) / 256 % 256), .sint .u8 ((s.t + 1) / 1 % 256), .sint .u8 ((s.a + 1) / 72057594037927936 % 256), .sint .u8 ((s.a + 1) / 281474976710656 % 256), .sint .u8 ((s.a + 1) / 1099511627776 % 256), .sint .u8 ((s.a + 1) / 4294967296 % 256), .sint .u8 ((s.a + 1) / 16777216 % 256), .sint .u8 ((s.a + 1) / 65536 % 256), .sint .u8 ((s.a + 1) / 256 % 256), .sint .u8 ((s.a + 1) / 1 % 256), .sint .u8 (s.r / 72057594037927936 % 256), .sint .u8 (s.r / 281474976710656 % 256), .sint .u8 (s.r / 1099511627776 % 256), .sint .u8 (s.r / 4294967296 % 256), .sint .u8 (s.r / 16777216 % 256), .sint .u8 (s.r / 65536 % 256), .sint .u8 (s.r / 256 % 256), .sint .u8 (s.r / 1 % 256)]), none), (some (Blk.cells 97 (some 1) [.sint .u8 (s.d / 1 % 256), .sint .u8 ((s.w + 1) / 256 % 256), .sint .u8 ((s.w + 1) / 1 % 256), .sint .u8 ((s.J + 1) / 256 % 256), .sint .u8 ((s.J + 1) / 1 % 256), .sint .u8 ((s.K + 1) / 256 % 256), .sint .u8 ((s.K + 1) / 1 % 256), .sint .u8 ((s.N + 1) / 16777216 % 256), .sint .u8 ((s.N + 1) / 65536 % 256), .sint .u8 ((s.N + 1) / 256 % 256), .sint .u8 ((s.N + 1) / 1 % 256), .sint .u8 (s.k / 1 % 256), .sint .u8 (s.n / 72057594037927936 % 256), .sint .u8 (s.n / 281474976710656 % 256), .sint .u8 (s.n / 1099511627776 % 256), .sint .u8 (s.n / 4294967296 % 256), .sint .u8 (s.n / 16777216 % 256), .sint .u8 (s.n / 65536 % 256), .sint .u8 (s.n / 256 % 256), .sint .u8 (s.n / 1 % 256), .sint .u8 ((s.t + 1) / 256 % 256), .sint .u8 ((s.t + 1) / 1 % 256), .sint .u8 ((s.a + 1) / 72057594037927936 % 256), .sint .u8 ((s.a + 1) / 281474976710656 % 256), .sint .u8 ((s.a + 1) / 1099511627776 % 256), .sint .u8 ((s.a + 1) / 4294967296 % 256), .sint .u8 ((s.a + 1) / 16777216 % 256), .sint .u8 ((s.a + 1) / 65536 % 256), .sint .u8 ((s.a + 1) / 256 % 256), .sint .u8 ((s.a + 1) / 1 % 256), .sint .u8 (s.r / 72057594037927936 % 256), .sint .u8 (s.r / 281474976710656 % 256), .sint .u8 (s.r / 1099511627776 % 256), .sint .u8 (s.r / 4294967296 % 256), .sint .u8 (s.r / 16777216 % 256), .sint .u8 (s.r / 65536 % 256), .sint .u8 (s.r / 256 % 256), .sint .u8 (s.r / 1 % 256), .sint .u8 (s.o / 72057594037927936 % 256), .sint .u8 (s.o / 281474976710656 % 256), .sint .u8 (s.o / 1099511627776 % 256), .sint .u8 (s.o / 4294967296 % 256), .sint .u8 (s.o / 16777216 % 256), .sint .u8 (s.o / 65536 % 256), .sint .u8 (s.o / 256 % 256), .sint .u8 (s.o / 1 % 256)]), none)]))))))))))))))))))))))))) (by kernel_rfl) ?_
   refine hl (bc fun h1 => by omega) ?_
   refine hzr (fun h1 => by omega) ?_
   refine hl (bc fun h1 => by omega) ?_
   refine hl (bc fun h1 => by omega) ?_
   refine hzr (fun h1 => by omega) ?_
   refine hl (bc fun h1 => by omega) ?_
   refine hl (bc fun h1 => by omega) ?_
   refine hzr (fun h1 => by omega) ?_
   refine hl (bc fun h1 => by omega) ?_
   refine hl (bc fun h1 => by omega) ?_
   refine hzr (fun h1 => by omega) ?_
   refine hl (bc fun h1 => by omega) ?_
   refine hl (bc fun h1 => by omega) ?_
   refine hzr (fun h1 => by omega) ?_
   refine hl (bc fun h1 => by omega) ?_
   refine hzr (fun h1 => by omega) ?_
   refine hl (bc fun h1 => by omega) ?_
   refine hl (bc fun h1 => by omega) ?_
   refine hzr (fun h1 => by omega) ?_
   refine hl (bc fun h1 => by omega) ?_
   refine hl (bc fun h1 => by omega) ?_
   refine hl (bc fun h1 => by omega) ?_
   refine hzr (fun h1 => by omega) ?_
   refine hold_stop (fun hd hb => ?_)
   refine ok_loop hd (X := {i : Nat // i ≤ q}) (fun i => ppT i.1) (fun i => ppG s q P i.1) (fun i => q - i.1) [some 0, some 117] ⟨0, by omega⟩ (fits_cr2 (look_join (look_hd hb) (look_hd (look_tl hb))) (by decide) (by simp [ppT, fitsA, fitA, nf]) (fitsA_self _ rfl) (by decide) (Nat.le_of_ble_eq_true (by kernel_rfl)) (rowT_hdD s q P (by kernel_rfl))) ?_
   rintro ⟨i, i1⟩
   refine ok_sk (.both (.l (.l (.l (.r (.l (.l (.l (.l (.l (.stop [0, 5, 1])))))))))) (.stop [1])) (S := .fork (decide ((↑i : Int) < (↑q : Int))) (.left (decide (0 ≤ (↑i : Int) ∧ (↑i : Int).toNat < q)) (.left (decide ((-9223372036854775808 : Int) ≤ P (↑i : Int).toNat + 1 ∧ P (↑i : Int).toNat + 1 ≤ 9223372036854775807)) (.left (decide (0 ≤ P (↑i : Int).toNat + 1 ∧ P (↑i : Int).toNat + 1 ≤ 18446744073709551615)) (.right (decide (0 < (P (↑i : Int).toNat + 1) / 256)) (.left (decide (47 + i ≤ 47 + i)) (.left (@decide (47 + i < 65536 ∧ RowsOK 1 (47 + i) (rowT s q P)) pd) (.left (@decide (1 < 65536 ∧ RowsOK 1 1 fun (i_1 : Nat) => List.take 1 (List.drop (i_1 * 1) [.sint .u8 ((P (↑i : Int).toNat + 1) / 1 % 256)])) pd) (.left (decide (47 + i ≤ 47 + i ∧ 47 + i < 65536)) (.left (decide ((-9223372036854775808 : Int) ≤ (↑i : Int) + 1 ∧ (↑i : Int) + 1 ≤ 9223372036854775807)) (.stop (Hd.again (again' (fun (i : { i : Nat // i ≤ q }) => ppT i.val) (fun (i : { i : Nat // i ≤ q }) => ppG s q P i.val) (fun (i : { i : Nat // i ≤ q }) => q - i.val) ⟨i, i1⟩) [.top, .ptr 0 0, .top, .gsl 5 (47 + i + 1), .sint .i64 ((↑i : Int) + 1), .top, .top, .top, .top, .top, .top, .top, .top, .top, .top, .top, .top, .top, .top, .top, .top, .top, .top, .top, .top, .top, .top, .top, .top, .top, .top, .top, .top, .top, .top, .top, .top, .top, .top, .top, .top, .top, .top, .top, .top, .top, .top, .top, .top, .top, .top, .top, .top, .top, .top, .top, .top, .top, .top, .top, .top, .top, .top, .top, .top, .top, .top, .top, .top, .top, .top, .top, .top, .top, .top, .top, .top, .sint .i64 (↑i : Int), .ptr 0 11, .data 1 q fun (i : Nat) => [.sint .i64 (P i)], .sint .i64 (↑q : Int), .bool true, .sint .i64 (↑i : Int), .sint .i64 ((↑i : Int) + 1), .gsl 1 (47 + i), .ptr 0 11, .data 1 q fun (i : Nat) => [.sint .i64 (P i)], .sint .i64 (↑i : Int), AV.dptr [.sint .i64 (P (↑i : Int).toNat)], .sint .i64 (P (↑i : Int).toNat), .sint .i64 (P (↑i : Int).toNat + 1), .sint .u64 (P (↑i : Int).toNat + 1), .gsl 5 (47 + i + 1), .top]) [0, 5, 1] ([(some (Blk.cells 0 none (s.row (ints q P))), none), (some (Blk.seq 5 1 (47 + i + 1) (glue (47 + i) (rowT s q P) fun (i_1 : Nat) => List.take 1 (List.drop (i_1 * 1) [.sint .u8 ((P (↑i : Int).toNat + 1) / 1 % 256)]))), some (1, 47 + i + 1, glue (47 + i) (rowT s q P) fun (i_1 : Nat) => List.take 1 (List.drop (i_1 * 1) [.sint .u8 ((P (↑i : Int).toNat + 1) / 1 % 256)]))), (some (Blk.seq 1 1 (47 + i) (rowT s q P)), some (1, 47 + i, rowT s q P))]))))))))))) (.stop (Hd.leaf (.gsl 1 (47 + i))) [1] ([(some (Blk.seq 1 1 (47 + i) (rowT s q P)), some (1, 47 + i, rowT s q P))]))) (by kernel_rfl) ?_
   refine hold_forkD (fun h2 => ?_) (fun h2 => ?_)
   ·
    refine hl (bc fun h3 => by omega) ?_
    refine hl (bc fun h3 => by (have hp := m4 (i : Int).toNat (by omega); omega)) ?_
    refine hl (bc fun h3 => by (have hp := m4 (i : Int).toNat (by omega); omega)) ?_
    refine hzr (fun h3 => by (have hp := m4 (i : Int).toNat (by omega); omega)) ?_
    refine hl (bc fun h3 => by omega) ?_
    refine hl (bc fun h3 => by exact h3 ⟨by omega, fun j hj => ⟨rfl, rfl⟩⟩) ?_
    refine hl (bc fun h3 => by exact h3 ⟨by omega, fun i hi => by obtain rfl : i = 0 := (by omega); exact ⟨rfl, rfl⟩⟩) ?_
    refine hl (bc fun h3 => by omega) ?_
    refine hl (bc fun h3 => by omega) ?_
    refine hold_stop (fun hd hb => ?_)
    refine ok_again hd [some 0, some 5] ⟨i + 1, by omega⟩ (by show q - (i + 1) < q - i; omega) (fits_cs2 (look_join (look_hd hb) (look_hd (look_tl hb))) (by decide) (by simp [ppT, fitsA, fitA, nf] <;> omega) (fitsA_self _ rfl) ⟨by show 47 + (i + 1) ≤ _; omega, rowT_glue s q P i (by show [AV.sint .u8 ((P i + 1) / 1 % 256)] = _; rw [Int.ediv_one])⟩)
   refine hold_stop (fun hd hb => ?_)
   exact ok_leafG hd hb (y := .gsl 0 (47 + q)) (by simp [fitA, fitsA, nf]; omega) (by omega) (fun i hi => ⟨rfl, rfl⟩) (.inr ⟨my, rfl, rfl⟩)
  refine ok_sk (.stop []) (S := .stop (Hd.leaf .nilSlice) [] ([])) (by kernel_rfl) ?_
  refine hold_stop (fun hd hb => ?_)
  exact ok_leaf0 hd rfl (.inl ⟨rfl, rfl, my⟩)
end Go.Proofs.YtkebdfbdneggkaaGreat
namespace Go.Proofs.YtkebdfbdneggkaaGreat
open Go Go.RowKit Sv
set_option linter.unusedVariables false
set_option linter.unusedSimpArgs false
set_option maxRecDepth 100000
set_option maxHeartbeats 0
theorem fit_eq {ns : List (Option Nat)} {k : IntKind} {x y : Int} (h : x = y) : fitA ns (.sint k x) (.sint k y) := by subst h; exact fit_n
def rdG (n : Nat) (y : Nat → Nat) (a : AV) (b : Bool) : List NewB := [.cells none [.data 1 n (by8 y), a, .bool b]]
theorem ok_leafM1 {P : Program} {o lp : Nat → Bool} {n0 : Nat} {R : AV → List NewB → Prop} {t : T} {x y : AV} {c0 : Nat} {g0 : Option Nat} {cs0 ds0 : List AV} {s0 : Option (Nat × Nat × (Nat → List AV))} (hd : t.hd = .leaf (.tuple [x, .gsl 0 0])) (hb : Sv.look t.heap [0] = [(some (.cells c0 g0 cs0), s0)])
    (hR : R y [.cells g0 ds0]) (hx : fitA [some 0] y x) (h0 : fitsA [some 0] ds0 cs0) (k0 : (NewB.cells g0 ds0).kept = true) : t.ok P o lp n0 (RM 1 R) := by
  refine ok_leaf (ns := [some 0]) (y := .tuple [y, .gsl 0 0]) (G := [.cells g0 ds0]) hd (fits_cells hb ⟨?_, trivial⟩ h0) ⟨y, by simp [marksG, k0], hR⟩
  simp only [fitA]
  simp only [fitsA]
  exact ⟨hx, by simp [fitA], trivial⟩
theorem ok_callM1 {P : Program} {o lp : Nat → Bool} {n0 : Nat} {R : AV → List NewB → Prop} {t : T} {f j0 c0 o0 : Nat} {args bs : List AV} {g0 : Option Nat} {cs0 ds0 : List AV} {s0 : Option (Nat × Nat × (Nat → List AV))} {R' : AV → List NewB → Prop} (hd : t.hd = .call f args) (hr : RunsM P f [.cells g0 ds0] bs R')
    (hb : Sv.look t.heap [j0] = [(some (.cells c0 g0 cs0), s0)]) (ha : alone t.heap [j0] = true) (hx : fitsA [some j0] bs args) (h0 : fitsA [some j0] ds0 cs0) (p0 : AV.ptr 0 o0 ∈ bs) (hk : ∀ x G, R' x G → (t.aftM [j0] x G).ok P o lp n0 R) : t.ok P o lp n0 R := by
  refine ok_callM hd hr [j0] (by simp) (fits_cells hb hx h0) ha (fun k j hk => .inr fun ρ E w vs _ hv => ?_) hk
  rcases k with _ | k
  · exact vrs_ptr hv p0
  · simp at hk
theorem rk1 (n : Nat) (y : Nat → Nat) (p : Int) (hn : n ≤ 5000) (hp : 0 ≤ p ∧ p ≤ n) : RunsM Tryz.prog 33 (rdG n y (.sint .i64 p) false) [.ptr 0 0, .int .i64 1] fun x G => ((p + 1 ≤ n ∧ 0 ≤ n1 (sh y p.toNat) ∧ n1 (sh y p.toNat) ≤ 255) ∧ x = .sint .u64 (n1 (sh y p.toNat)) ∧ G = rdG n y (.sint .i64 (p + 1)) false) ∨ ((n : Int) < p + 1 ∧ x = .int .u64 0 ∧ G = rdG n y (.sint .i64 p) true) := by
  refine runs_treeM plain mixed (fun _ => false) 60 (rdG n y (.sint .i64 p) false) ?_
  refine ok_sk (.r (.r (.l (.both (.stop [0]) (.l (.l (.l (.l (.l (.stop [0])))))))))) (S := .right (decide (p < 0)) (.right (decide ((↑n : Int) < p)) (.left (decide ((-9223372036854775808 : Int) ≤ (↑n : Int) - p ∧ (↑n : Int) - p ≤ 9223372036854775807)) (.fork (decide ((↑n : Int) - p < 1)) (.stop (Hd.leaf (.tuple [.int .u64 0, .gsl 0 0])) [0] ([bk 0 [.data 1 n (by8 y), .sint .i64 p, .bool true]])) (.left (decide ((-9223372036854775808 : Int) ≤ p + 0 ∧ p + 0 ≤ 9223372036854775807)) (.left (decide (0 ≤ p + 0 ∧ (p + 0).toNat < n)) (.left (decide (0 ≤ (↑(y (p + 0).toNat % 256) : Int) ∧ (↑(y (p + 0).toNat % 256) : Int) ≤ 18446744073709551615)) (.left (decide ((0 : Int) ≤ 0 + (↑(y (p + 0).toNat % 256) : Int) ∧ (0 : Int) + (↑(y (p + 0).toNat % 256) : Int) ≤ 18446744073709551615)) (.left (decide ((-9223372036854775808 : Int) ≤ p + 1 ∧ p + 1 ≤ 9223372036854775807)) (.stop (Hd.leaf (.tuple [.sint .u64 ((0 : Int) + (↑(y (p + 0).toNat % 256) : Int)), .gsl 0 0])) [0] ([bk 0 [.data 1 n (by8 y), .sint .i64 (p + 1), .bool false]]))))))))))) (by kernel_rfl) ?_
  refine hzr (fun h0 => by omega) ?_
  refine hzr (fun h0 => by omega) ?_
  refine hl (bc fun h0 => by omega) ?_
  refine hold_forkD (fun h0 => ?_) (fun h0 => ?_)
  ·
   refine hold_stop (fun hd hb => ?_)
   exact ok_leafM1 hd hb (.inr ⟨by omega, rfl, rfl⟩) (by simp [fitA, nf]) (by simp [fitsA, fitA, nf]) rfl
  refine hl (bc fun h1 => by omega) ?_
  refine hl (bc fun h1 => by omega) ?_
  refine hl (bc fun h1 => by omega) ?_
  refine hl (bc fun h1 => by omega) ?_
  refine hl (bc fun h1 => by omega) ?_
  refine hold_stop (fun hd hb => ?_)
  have e0 : (p + (0 : Int)).toNat = p.toNat + 0 := by omega
  exact ok_leafM1 hd hb (.inl ⟨⟨by omega, (n1_bd _).1, (n1_bd _).2⟩, rfl, rfl⟩) (fit_eq (by unfold n1 b8 sh; rw [e0])) (by simp [fitsA, fitA, nf]) rfl
theorem rk2 (n : Nat) (y : Nat → Nat) (p : Int) (hn : n ≤ 5000) (hp : 0 ≤ p ∧ p ≤ n) : RunsM Tryz.prog 33 (rdG n y (.sint .i64 p) false) [.ptr 0 0, .int .i64 2] fun x G => ((p + 2 ≤ n ∧ 0 ≤ n2 (sh y p.toNat) ∧ n2 (sh y p.toNat) ≤ 65535) ∧ x = .sint .u64 (n2 (sh y p.toNat)) ∧ G = rdG n y (.sint .i64 (p + 2)) false) ∨ ((n : Int) < p + 2 ∧ x = .int .u64 0 ∧ G = rdG n y (.sint .i64 p) true) := by
  refine runs_treeM plain mixed (fun _ => false) 60 (rdG n y (.sint .i64 p) false) ?_
  refine ok_sk (.r (.r (.l (.both (.stop [0]) (.l (.l (.l (.l (.l (.l (.l (.l (.l (.l (.stop [0]))))))))))))))) (S := .right (decide (p < 0)) (.right (decide ((↑n : Int) < p)) (.left (decide ((-9223372036854775808 : Int) ≤ (↑n : Int) - p ∧ (↑n : Int) - p ≤ 9223372036854775807)) (.fork (decide ((↑n : Int) - p < 2)) (.stop (Hd.leaf (.tuple [.int .u64 0, .gsl 0 0])) [0] ([bk 0 [.data 1 n (by8 y), .sint .i64 p, .bool true]])) (.left (decide ((-9223372036854775808 : Int) ≤ p + 0 ∧ p + 0 ≤ 9223372036854775807)) (.left (decide (0 ≤ p + 0 ∧ (p + 0).toNat < n)) (.left (decide (0 ≤ (↑(y (p + 0).toNat % 256) : Int) ∧ (↑(y (p + 0).toNat % 256) : Int) ≤ 18446744073709551615)) (.left (decide ((0 : Int) ≤ 0 + (↑(y (p + 0).toNat % 256) : Int) ∧ (0 : Int) + (↑(y (p + 0).toNat % 256) : Int) ≤ 18446744073709551615)) (.left (decide ((0 : Int) ≤ 256 * ((0 : Int) + (↑(y (p + 0).toNat % 256) : Int)) ∧ (256 : Int) * ((0 : Int) + (↑(y (p + 0).toNat % 256) : Int)) ≤ 18446744073709551615)) (.left (decide ((-9223372036854775808 : Int) ≤ p + 1 ∧ p + 1 ≤ 9223372036854775807)) (.left (decide (0 ≤ p + 1 ∧ (p + 1).toNat < n)) (.left (decide (0 ≤ (↑(y (p + 1).toNat % 256) : Int) ∧ (↑(y (p + 1).toNat % 256) : Int) ≤ 18446744073709551615)) (.left (decide ((0 : Int) ≤ 256 * ((0 : Int) + (↑(y (p + 0).toNat % 256) : Int)) + (↑(y (p + 1).toNat % 256) : Int) ∧ (256 : Int) * ((0 : Int) + (↑(y (p + 0).toNat % 256) : Int)) + (↑(y (p + 1).toNat % 256) : Int) ≤ 18446744073709551615)) (.left (decide ((-9223372036854775808 : Int) ≤ p + 2 ∧ p + 2 ≤ 9223372036854775807)) (.stop (Hd.leaf (.tuple [.sint .u64 ((256 : Int) * ((0 : Int) + (↑(y (p + 0).toNat % 256) : Int)) + (↑(y (p + 1).toNat % 256) : Int)), .gsl 0 0])) [0] ([bk 0 [.data 1 n (by8 y), .sint .i64 (p + 2), .bool false]])))))))))))))))) (by kernel_rfl) ?_
  refine hzr (fun h0 => by omega) ?_
  refine hzr (fun h0 => by omega) ?_
  refine hl (bc fun h0 => by omega) ?_
  refine hold_forkD (fun h0 => ?_) (fun h0 => ?_)
  ·
   refine hold_stop (fun hd hb => ?_)
   exact ok_leafM1 hd hb (.inr ⟨by omega, rfl, rfl⟩) (by simp [fitA, nf]) (by simp [fitsA, fitA, nf]) rfl
  refine hl (bc fun h1 => by omega) ?_
  refine hl (bc fun h1 => by omega) ?_
  refine hl (bc fun h1 => by omega) ?_
  refine hl (bc fun h1 => by omega) ?_
  refine hl (bc fun h1 => by omega) ?_
  refine hl (bc fun h1 => by omega) ?_
  refine hl (bc fun h1 => by omega) ?_
  refine hl (bc fun h1 => by omega) ?_
  refine hl (bc fun h1 => by omega) ?_
  refine hl (bc fun h1 => by omega) ?_
  refine hold_stop (fun hd hb => ?_)
  have e0 : (p + (0 : Int)).toNat = p.toNat + 0 := by omega
  have e1 : (p + (1 : Int)).toNat = p.toNat + 1 := by omega
  exact ok_leafM1 hd hb (.inl ⟨⟨by omega, (n2_bd _).1, (n2_bd _).2⟩, rfl, rfl⟩) (fit_eq (by unfold n2 b8 sh; rw [e0, e1]; omega)) (by simp [fitsA, fitA, nf]) rfl
theorem rk4 (n : Nat) (y : Nat → Nat) (p : Int) (hn : n ≤ 5000) (hp : 0 ≤ p ∧ p ≤ n) : RunsM Tryz.prog 33 (rdG n y (.sint .i64 p) false) [.ptr 0 0, .int .i64 4] fun x G => ((p + 4 ≤ n ∧ 0 ≤ n4 (sh y p.toNat) ∧ n4 (sh y p.toNat) ≤ 4294967295) ∧ x = .sint .u64 (n4 (sh y p.toNat)) ∧ G = rdG n y (.sint .i64 (p + 4)) false) ∨ ((n : Int) < p + 4 ∧ x = .int .u64 0 ∧ G = rdG n y (.sint .i64 p) true) := by
  refine runs_treeM plain mixed (fun _ => false) 60 (rdG n y (.sint .i64 p) false) ?_
  refine ok_sk (.r (.r (.l (.both (.stop [0]) (.l (.l (.l (.l (.l (.l (.l (.l (.l (.l (.l (.l (.l (.l (.l (.l (.l (.l (.l (.l (.stop [0]))))))))))))))))))))))))) (S := .right (decide (p < 0)) (.right (decide ((↑n : Int) < p)) (.left (decide ((-9223372036854775808 : Int) ≤ (↑n : Int) - p ∧ (↑n : Int) - p ≤ 9223372036854775807)) (.fork (decide ((↑n : Int) - p < 4)) (.stop (Hd.leaf (.tuple [.int .u64 0, .gsl 0 0])) [0] ([bk 0 [.data 1 n (by8 y), .sint .i64 p, .bool true]])) (.left (decide ((-9223372036854775808 : Int) ≤ p + 0 ∧ p + 0 ≤ 9223372036854775807)) (.left (decide (0 ≤ p + 0 ∧ (p + 0).toNat < n)) (.left (decide (0 ≤ (↑(y (p + 0).toNat % 256) : Int) ∧ (↑(y (p + 0).toNat % 256) : Int) ≤ 18446744073709551615)) (.left (decide ((0 : Int) ≤ 0 + (↑(y (p + 0).toNat % 256) : Int) ∧ (0 : Int) + (↑(y (p + 0).toNat % 256) : Int) ≤ 18446744073709551615)) (.left (decide ((0 : Int) ≤ 256 * ((0 : Int) + (↑(y (p + 0).toNat % 256) : Int)) ∧ (256 : Int) * ((0 : Int) + (↑(y (p + 0).toNat % 256) : Int)) ≤ 18446744073709551615)) (.left (decide ((-9223372036854775808 : Int) ≤ p + 1 ∧ p + 1 ≤ 9223372036854775807)) (.left (decide (0 ≤ p + 1 ∧ (p + 1).toNat < n)) (.left (decide (0 ≤ (↑(y (p + 1).toNat % 256) : Int) ∧ (↑(y (p + 1).toNat % 256) : Int) ≤ 18446744073709551615)) (.left (decide ((0 : Int) ≤ 256 * ((0 : Int) + (↑(y (p + 0).toNat % 256) : Int)) + (↑(y (p + 1).toNat % 256) : Int) ∧ (256 : Int) * ((0 : Int) + (↑(y (p + 0).toNat % 256) : Int)) + (↑(y (p + 1).toNat % 256) : Int) ≤ 18446744073709551615)) (.left (decide ((0 : Int) ≤ 256 * ((256 : Int) * ((0 : Int) + (↑(y (p + 0).toNat % 256) : Int)) + (↑(y (p + 1).toNat % 256) : Int)) ∧ (256 : Int) * ((256 : Int) * ((0 : Int) + (↑(y (p + 0).toNat % 256) : Int)) + (↑(y (p + 1).toNat % 256) : Int)) ≤ 18446744073709551615)) (.left (decide ((-9223372036854775808 : Int) ≤ p + 2 ∧ p + 2 ≤ 9223372036854775807)) (.left (decide (0 ≤ p + 2 ∧ (p + 2).toNat < n)) (.left (decide (0 ≤ (↑(y (p + 2).toNat % 256) : Int) ∧ (↑(y (p + 2).toNat % 256) : Int) ≤ 18446744073709551615)) (.left (decide ((0 : Int) ≤ 256 * ((256 : Int) * ((0 : Int) + (↑(y (p + 0).toNat % 256) : Int)) + (↑(y (p + 1).toNat % 256) : Int)) + (↑(y (p + 2).toNat % 256) : Int) ∧ (256 : Int) * ((256 : Int) * ((0 : Int) + (↑(y (p + 0).toNat % 256) : Int)) + (↑(y (p + 1).toNat % 256) : Int)) + (↑(y (p + 2).toNat % 256) : Int) ≤ 18446744073709551615)) (.left (decide ((0 : Int) ≤ 256 * ((256 : Int) * ((256 : Int) * ((0 : Int) + (↑(y (p + 0).toNat % 256) : Int)) + (↑(y (p + 1).toNat % 256) : Int)) + (↑(y (p + 2).toNat % 256) : Int)) ∧ (256 : Int) * ((256 : Int) * ((256 : Int) * ((0 : Int) + (↑(y (p + 0).toNat % 256) : Int)) + (↑(y (p + 1).toNat % 256) : Int)) + (↑(y (p + 2).toNat % 256) : Int)) ≤ 18446744073709551615)) (.left (decide ((-9223372036854775808 : Int) ≤ p + 3 ∧ p + 3 ≤ 9223372036854775807)) (.left (decide (0 ≤ p + 3 ∧ (p + 3).toNat < n)) (.left (decide (0 ≤ (↑(y (p + 3).toNat % 256) : Int) ∧ (↑(y (p + 3).toNat % 256) : Int) ≤ 18446744073709551615)) (.left (decide ((0 : Int) ≤ 256 * ((256 : Int) * ((256 : Int) * ((0 : Int) + (↑(y (p + 0).toNat % 256) : Int)) + (↑(y (p + 1).toNat % 256) : Int)) + (↑(y (p + 2).toNat % 256) : Int)) + (↑(y (p + 3).toNat % 256) : Int) ∧ (256 : Int) * ((256 : Int) * ((256 : Int) * ((0 : Int) + (↑(y (p + 0).toNat % 256) : Int)) + (↑(y (p + 1).toNat % 256) : Int)) + (↑(y (p + 2).toNat % 256) : Int)) + (↑(y (p + 3).toNat % 256) : Int) ≤ 18446744073709551615)) (.left (decide ((-9223372036854775808 : Int) ≤ p + 4 ∧ p + 4 ≤ 9223372036854775807)) (.stop (Hd.leaf (.tuple [.sint .u64 ((256 : Int) * ((256 : Int) * ((256 : Int) * ((0 : Int) + (↑(y (p + 0).toNat % 256) : Int)) + (↑(y (p + 1).toNat % 256) : Int)) + (↑(y (p + 2).toNat % 256) : Int)) + (↑(y (p + 3).toNat % 256) : Int)), .gsl 0 0])) [0] ([bk 0 [.data 1 n (by8 y), .sint .i64 (p + 4), .bool false]])))))))))))))))))))))))))) (by kernel_rfl) ?_
  refine hzr (fun h0 => by omega) ?_
  refine hzr (fun h0 => by omega) ?_
  refine hl (bc fun h0 => by omega) ?_
  refine hold_forkD (fun h0 => ?_) (fun h0 => ?_)
  ·
   refine hold_stop (fun hd hb => ?_)
   exact ok_leafM1 hd hb (.inr ⟨by omega, rfl, rfl⟩) (by simp [fitA, nf]) (by simp [fitsA, fitA, nf]) rfl
  refine hl (bc fun h1 => by omega) ?_
  refine hl (bc fun h1 => by omega) ?_
  refine hl (bc fun h1 => by omega) ?_
  refine hl (bc fun h1 => by omega) ?_
  refine hl (bc fun h1 => by omega) ?_
  refine hl (bc fun h1 => by omega) ?_
  refine hl (bc fun h1 => by omega) ?_
  refine hl (bc fun h1 => by omega) ?_
  refine hl (bc fun h1 => by omega) ?_
  refine hl (bc fun h1 => by omega) ?_
  refine hl (bc fun h1 => by omega) ?_
  refine hl (bc fun h1 => by omega) ?_
  refine hl (bc fun h1 => by omega) ?_
  refine hl (bc fun h1 => by omega) ?_
  refine hl (bc fun h1 => by omega) ?_
  refine hl (bc fun h1 => by omega) ?_
  refine hl (bc fun h1 => by omega) ?_
  refine hl (bc fun h1 => by omega) ?_
  refine hl (bc fun h1 => by omega) ?_
  refine hl (bc fun h1 => by omega) ?_
  refine hold_stop (fun hd hb => ?_)
  have e0 : (p + (0 : Int)).toNat = p.toNat + 0 := by omega
  have e1 : (p + (1 : Int)).toNat = p.toNat + 1 := by omega
  have e2 : (p + (2 : Int)).toNat = p.toNat + 2 := by omega
  have e3 : (p + (3 : Int)).toNat = p.toNat + 3 := by omega
  exact ok_leafM1 hd hb (.inl ⟨⟨by omega, (n4_bd _).1, (n4_bd _).2⟩, rfl, rfl⟩) (fit_eq (by unfold n4 b8 sh; rw [e0, e1, e2, e3]; omega)) (by simp [fitsA, fitA, nf]) rfl
theorem rk8 (n : Nat) (y : Nat → Nat) (p : Int) (hn : n ≤ 5000) (hp : 0 ≤ p ∧ p ≤ n) : RunsM Tryz.prog 33 (rdG n y (.sint .i64 p) false) [.ptr 0 0, .int .i64 8] fun x G => ((p + 8 ≤ n ∧ 0 ≤ n8 (sh y p.toNat) ∧ n8 (sh y p.toNat) ≤ 18446744073709551615) ∧ x = .sint .u64 (n8 (sh y p.toNat)) ∧ G = rdG n y (.sint .i64 (p + 8)) false) ∨ ((n : Int) < p + 8 ∧ x = .int .u64 0 ∧ G = rdG n y (.sint .i64 p) true) := by
  refine runs_treeM plain mixed (fun _ => false) 60 (rdG n y (.sint .i64 p) false) ?_
  refine ok_sk (.r (.r (.l (.both (.stop [0]) (.l (.l (.l (.l (.l (.l (.l (.l (.l (.l (.l (.l (.l (.l (.l (.l (.l (.l (.l (.l (.l (.l (.l (.l (.l (.l (.l (.l (.l (.l (.l (.l (.l (.l (.l (.l (.l (.l (.l (.l (.stop [0]))))))))))))))))))))))))))))))))))))))))))))) (S := .right (decide (p < 0)) (.right (decide ((↑n : Int) < p)) (.left (decide ((-9223372036854775808 : Int) ≤ (↑n : Int) - p ∧ (↑n : Int) - p ≤ 9223372036854775807)) (.fork (decide ((↑n : Int) - p < 8)) (.stop (Hd.leaf (.tuple [.int .u64 0, .gsl 0 0])) [0] ([bk 0 [.data 1 n (by8 y), .sint .i64 p, .bool true]])) (.left (decide ((-9223372036854775808 : Int) ≤ p + 0 ∧ p + 0 ≤ 9223372036854775807)) (.left (decide (0 ≤ p + 0 ∧ (p + 0).toNat < n)) (.left (decide (0 ≤ (↑(y (p + 0).toNat % 256) : Int) ∧ (↑(y (p + 0).toNat % 256) : Int) ≤ 18446744073709551615)) (.left (decide ((0 : Int) ≤ 0 + (↑(y (p + 0).toNat % 256) : Int) ∧ (0 : Int) + (↑(y (p + 0).toNat % 256) : Int) ≤ 18446744073709551615)) (.left (decide ((0 : Int) ≤ 256 * ((0 : Int) + (↑(y (p + 0).toNat % 256) : Int)) ∧ (256 : Int) * ((0 : Int) + (↑(y (p + 0).toNat % 256) : Int)) ≤ 18446744073709551615)) (.left (decide ((-9223372036854775808 : Int) ≤ p + 1 ∧ p + 1 ≤ 9223372036854775807)) (.left (decide (0 ≤ p + 1 ∧ (p + 1).toNat < n)) (.left (decide (0 ≤ (↑(y (p + 1).toNat % 256) : Int) ∧ (↑(y (p + 1).toNat % 256) : Int) ≤ 18446744073709551615)) (.left (decide ((0 : Int) ≤ 256 * ((0 : Int) + (↑(y (p + 0).toNat % 256) : Int)) + (↑(y (p + 1).toNat % 256) : Int) ∧ (256 : Int) * ((0 : Int) + (↑(y (p + 0).toNat % 256) : Int)) + (↑(y (p + 1).toNat % 256) : Int) ≤ 18446744073709551615)) (.left (decide ((0 : Int) ≤ 256 * ((256 : Int) * ((0 : Int) + (↑(y (p + 0).toNat % 256) : Int)) + (↑(y (p + 1).toNat % 256) : Int)) ∧ (256 : Int) * ((256 : Int) * ((0 : Int) + (↑(y (p + 0).toNat % 256) : Int)) + (↑(y (p + 1).toNat % 256) : Int)) ≤ 18446744073709551615)) (.left (decide ((-9223372036854775808 : Int) ≤ p + 2 ∧ p + 2 ≤ 9223372036854775807)) (.left (decide (0 ≤ p + 2 ∧ (p + 2).toNat < n)) (.left (decide (0 ≤ (↑(y (p + 2).toNat % 256) : Int) ∧ (↑(y (p + 2).toNat % 256) : Int) ≤ 18446744073709551615)) (.left (decide ((0 : Int) ≤ 256 * ((256 : Int) * ((0 : Int) + (↑(y (p + 0).toNat % 256) : Int)) + (↑(y (p + 1).toNat % 256) : Int)) + (↑(y (p + 2).toNat % 256) : Int) ∧ (256 : Int) * ((256 : Int) * ((0 : Int) + (↑(y (p + 0).toNat % 256) : Int)) + (↑(y (p + 1).toNat % 256) : Int)) + (↑(y (p + 2).toNat % 256) : Int) ≤ 18446744073709551615)) (.left (decide ((0 : Int) ≤ 256 * ((256 : Int) * ((256 : Int) * ((0 : Int) + (↑(y (p + 0).toNat % 256) : Int)) + (↑(y (p + 1).toNat % 256) : Int)) + (↑(y (p + 2).toNat % 256) : Int)) ∧ (256 : Int) * ((256 : Int) * ((256 : Int) * ((0 : Int) + (↑(y (p + 0).toNat % 256) : Int)) + (↑(y (p + 1).toNat % 256) : Int)) + (↑(y (p + 2).toNat % 256) : Int)) ≤ 18446744073709551615)) (.left (decide ((-9223372036854775808 : Int) ≤ p + 3 ∧ p + 3 ≤ 9223372036854775807)) (.left (decide (0 ≤ p + 3 ∧ (p + 3).toNat < n)) (.left (decide (0 ≤ (↑(y (p + 3).toNat % 256) : Int) ∧ (↑(y (p + 3).toNat % 256) : Int) ≤ 18446744073709551615)) (.left (decide ((0 : Int) ≤ 256 * ((256 : Int) * ((256 : Int) * ((0 : Int) + (↑(y (p + 0).toNat % 256) : Int)) + (↑(y (p + 1).toNat % 256) : Int)) + (↑(y (p + 2).toNat % 256) : Int)) + (↑(y (p + 3).toNat % 256) : Int) ∧ (256 : Int) * ((256 : Int) * ((256 : Int) * ((0 : Int) + (↑(y (p + 0).toNat % 256) : Int)) + (↑(y (p + 1).toNat % 256) : Int)) + (↑(y (p + 2).toNat % 256) : Int)) + (↑(y (p + 3).toNat % 256) : Int) ≤ 18446744073709551615)) (.left (decide ((0 : Int) ≤ 256 * ((256 : Int) * ((256 : Int) * ((256 : Int) * ((0 : Int) + (↑(y (p + 0).toNat % 256) : Int)) + (↑(y (p + 1).toNat % 256) : Int)) + (↑(y (p + 2).toNat % 256) : Int)) + (↑(y (p + 3).toNat % 256) : Int)) ∧ (256 : Int) * ((256 : Int) * ((256 : Int) * ((256 : Int) * ((0 : Int) + (↑(y (p + 0).toNat % 256) : Int)) + (↑(y (p + 1).toNat % 256) : Int)) + (↑(y (p + 2).toNat % 256) : Int)) + (↑(y (p + 3).toNat % 256) : Int)) ≤ 18446744073709551615)) (.left (decide ((-9223372036854775808 : Int) ≤ p + 4 ∧ p + 4 ≤ 9223372036854775807)) (.left (decide (0 ≤ p + 4 ∧ (p + 4).toNat < n)) (.left (decide (0 ≤ (↑(y (p + 4).toNat % 256) : Int) ∧ (↑(y (p + 4).toNat % 256) : Int) ≤ 18446744073709551615)) (.left (decide ((0 : Int) ≤ 256 * ((256 : Int) * ((256 : Int) * ((256 : Int) * ((0 : Int) + (↑(y (p + 0).toNat % 256) : Int)) + (↑(y (p + 1).toNat % 256) : Int)) + (↑(y (p + 2).toNat % 256) : Int)) + (↑(y (p + 3).toNat % 256) : Int)) + (↑(y (p + 4).toNat % 256) : Int) ∧ (256 : Int) * ((256 : Int) * ((256 : Int) * ((256 : Int) * ((0 : Int) + (↑(y (p + 0).toNat % 256) : Int)) + (↑(y (p + 1).toNat % 256) : Int)) + (↑(y (p + 2).toNat % 256) : Int)) + (↑(y (p + 3).toNat % 256) : Int)) + (↑(y (p + 4).toNat % 256) : Int) ≤ 18446744073709551615)) (.left (decide ((0 : Int) ≤ 256 * ((256 : Int) * ((256 : Int) * ((256 : Int) * ((256 : Int) * ((0 : Int) + (↑(y (p + 0).toNat % 256) : Int)) + (↑(y (p + 1).toNat % 256) : Int)) + (↑(y (p + 2).toNat % 256) : Int)) + (↑(y (p + 3).toNat % 256) : Int)) + (↑(y (p + 4).toNat % 256) : Int)) ∧ (256 : Int) * ((256 : Int) * ((256 : Int) * ((256 : Int) * ((256 : Int) * ((0 : Int) + (↑(y (p + 0).toNat % 256) : Int)) + (↑(y (p + 1).toNat % 256) : Int)) + (↑(y (p + 2).toNat % 256) : Int)) + (↑(y (p + 3).toNat % 256) : Int)) + (↑(y (p + 4).toNat % 256) : Int)) ≤ 18446744073709551615)) (.left (decide ((-9223372036854775808 : Int) ≤ p + 5 ∧ p + 5 ≤ 9223372036854775807)) (.left (decide (0 ≤ p + 5 ∧ (p + 5).toNat < n)) (.left (decide (0 ≤ (↑(y (p + 5).toNat % 256) : Int) ∧ (↑(y (p + 5).toNat % 256) : Int) ≤ 18446744073709551615)) (.left (decide ((0 : Int) ≤ 256 * ((256 : Int) * ((256 : Int) * ((256 : Int) * ((256 : Int) * ((0 : Int) + (↑(y (p + 0).toNat % 256) : Int)) + (↑(y (p + 1).toNat % 256) : Int)) + (↑(y (p + 2).toNat % 256) : Int)) + (↑(y (p + 3).toNat % 256) : Int)) + (↑(y (p + 4).toNat % 256) : Int)) + (↑(y (p + 5).toNat % 256) : Int) ∧ (256 : Int) * ((256 : Int) * ((256 : Int) * ((256 : Int) * ((256 : Int) * ((0 : Int) + (↑(y (p + 0).toNat % 256) : Int)) + (↑(y (p + 1).toNat % 256) : Int)) + (↑(y (p + 2).toNat % 256) : Int)) + (↑(y (p + 3).toNat % 256) : Int)) + (↑(y (p + 4).toNat % 256) : Int)) + (↑(y (p + 5).toNat % 256) : Int) ≤ 18446744073709551615)) (.left (decide ((0 : Int) ≤ 256 * ((256 : Int) * ((256 : Int) * ((256 : Int) * ((256 : Int) * ((256 : Int) * ((0 : Int) + (↑(y (p + 0).toNat % 256) : Int)) + (↑(y (p + 1).toNat % 256) : Int)) + (↑(y (p + 2).toNat % 256) : Int)) + (↑(y (p + 3).toNat % 256) : Int)) + (↑(y (p + 4).toNat % 256) : Int)) + (↑(y (p + 5).toNat % 256) : Int)) ∧ (256 : Int) * ((256 : Int) * ((256 : Int) * ((256 : Int) * ((256 : Int) * ((256 : Int) * ((0 : Int) + (↑(y (p + 0).toNat % 256) : Int)) + (↑(y (p + 1).toNat % 256) : Int)) + (↑(y (p + 2).toNat % 256) : Int)) + (↑(y (p + 3).toNat % 256) : Int)) + (↑(y (p + 4).toNat % 256) : Int)) + (↑(y (p + 5).toNat % 256) : Int)) ≤ 18446744073709551615)) (.left (decide ((-9223372036854775808 : Int) ≤ p + 6 ∧ p + 6 ≤ 9223372036854775807)) (.left (decide (0 ≤ p + 6 ∧ (p + 6).toNat < n)) (.left (decide (0 ≤ (↑(y (p + 6).toNat % 256) : Int) ∧ (↑(y (p + 6).toNat % 256) : Int) ≤ 18446744073709551615)) (.left (decide ((0 : Int) ≤ 256 * ((256 : Int) * ((256 : Int) * ((256 : Int) * ((256 : Int) * ((256 : Int) * ((0 : Int) + (↑(y (p + 0).toNat % 256) : Int)) + (↑(y (p + 1).toNat % 256) : Int)) + (↑(y (p + 2).toNat % 256) : Int)) + (↑(y (p + 3).toNat % 256) : Int)) + (↑(y (p + 4).toNat % 256) : Int)) + (↑(y (p + 5).toNat % 256) : Int)) + (↑(y (p + 6).toNat % 256) : Int) ∧ (256 : Int) * ((256 : Int) * ((256 : Int) * ((256 : Int) * ((256 : Int) * ((256 : Int) * ((0 : Int) + (↑(y (p + 0).toNat % 256) : Int)) + (↑(y (p + 1).toNat % 256) : Int)) + (↑(y (p + 2).toNat % 256) : Int)) + (↑(y (p + 3).toNat % 256) : Int)) + (↑(y (p + 4).toNat % 256) : Int)) + (↑(y (p + 5).toNat % 256) : Int)) + (↑(y (p + 6).toNat % 256) : Int) ≤ 18446744073709551615)) (.left (decide ((0 : Int) ≤ 256 * ((256 : Int) * ((256 : Int) * ((256 : Int) * ((256 : Int) * ((256 : Int) * ((256 : Int) * ((0 : Int) + (↑(y (p + 0).toNat % 256) : Int)) + (↑(y (p + 1).toNat % 256) : Int)) + (↑(y (p + 2).toNat % 256) : Int)) + (↑(y (p + 3).toNat % 256) : Int)) + (↑(y (p + 4).toNat % 256) : Int)) + (↑(y (p + 5).toNat % 256) : Int)) + (↑(y (p + 6).toNat % 256) : Int)) ∧ (256 : Int) * ((256 : Int) * ((256 : Int) * ((256 : Int) * ((256 : Int) * ((256 : Int) * ((256 : Int) * ((0 : Int) + (↑(y (p + 0).toNat % 256) : Int)) + (↑(y (p + 1).toNat % 256) : Int)) + (↑(y (p + 2).toNat % 256) : Int)) + (↑(y (p + 3).toNat % 256) : Int)) + (↑(y (p + 4).toNat % 256) : Int)) + (↑(y (p + 5).toNat % 256) : Int)) + (↑(y (p + 6).toNat % 256) : Int)) ≤ 18446744073709551615)) (.left (decide ((-9223372036854775808 : Int) ≤ p + 7 ∧ p + 7 ≤ 9223372036854775807)) (.left (decide (0 ≤ p + 7 ∧ (p + 7).toNat < n)) (.left (decide (0 ≤ (↑(y (p + 7).toNat % 256) : Int) ∧ (↑(y (p + 7).toNat % 256) : Int) ≤ 18446744073709551615)) (.left (decide ((0 : Int) ≤ 256 * ((256 : Int) * ((256 : Int) * ((256 : Int) * ((256 : Int) * ((256 : Int) * ((256 : Int) * ((0 : Int) + (↑(y (p + 0).toNat % 256) : Int)) + (↑(y (p + 1).toNat % 256) : Int)) + (↑(y (p + 2).toNat % 256) : Int)) + (↑(y (p + 3).toNat % 256) : Int)) + (↑(y (p + 4).toNat % 256) : Int)) + (↑(y (p + 5).toNat % 256) : Int)) + (↑(y (p + 6).toNat % 256) : Int)) + (↑(y (p + 7).toNat % 256) : Int) ∧ (256 : Int) * ((256 : Int) * ((256 : Int) * ((256 : Int) * ((256 : Int) * ((256 : Int) * ((256 : Int) * ((0 : Int) + (↑(y (p + 0).toNat % 256) : Int)) + (↑(y (p + 1).toNat % 256) : Int)) + (↑(y (p + 2).toNat % 256) : Int)) + (↑(y (p + 3).toNat % 256) : Int)) + (↑(y (p + 4).toNat % 256) : Int)) + (↑(y (p + 5).toNat % 256) : Int)) + (↑(y (p + 6).toNat % 256) : Int)) + (↑(y (p + 7).toNat % 256) : Int) ≤ 18446744073709551615)) (.left (decide ((-9223372036854775808 : Int) ≤ p + 8 ∧ p + 8 ≤ 9223372036854775807)) (.stop (Hd.leaf (.tuple [.sint .u64 ((256 : Int) * ((256 : Int) * ((256 : Int) * ((256 : Int) * ((256 : Int) * ((256 : Int) * ((256 : Int) * ((0 : Int) + (↑(y (p + 0).toNat % 256) : Int)) + (↑(y (p + 1).toNat % 256) : Int)) + (↑(y (p + 2).toNat % 256) : Int)) + (↑(y (p + 3).toNat % 256) : Int)) + (↑(y (p + 4).toNat % 256) : Int)) + (↑(y (p + 5).toNat % 256) : Int)) + (↑(y (p + 6).toNat % 256) : Int)) + (↑(y (p + 7).toNat % 256) : Int)), .gsl 0 0])) [0] ([bk 0 [.data 1 n (by8 y), .sint .i64 (p + 8), .bool false]])))))))))))))))))))))))))))))))))))))))))))))) (by kernel_rfl) ?_
  refine hzr (fun h0 => by omega) ?_
  refine hzr (fun h0 => by omega) ?_
  refine hl (bc fun h0 => by omega) ?_
  refine hold_forkD (fun h0 => ?_) (fun h0 => ?_)
  ·
   refine hold_stop (fun hd hb => ?_)
   exact ok_leafM1 hd hb (.inr ⟨by omega, rfl, rfl⟩) (by simp [fitA, nf]) (by simp [fitsA, fitA, nf]) rfl
  refine hl (bc fun h1 => by omega) ?_
  refine hl (bc fun h1 => by omega) ?_
  refine hl (bc fun h1 => by omega) ?_
  refine hl (bc fun h1 => by omega) ?_
  refine hl (bc fun h1 => by omega) ?_
  refine hl (bc fun h1 => by omega) ?_
  refine hl (bc fun h1 => by omega) ?_
  refine hl (bc fun h1 => by omega) ?_
  refine hl (bc fun h1 => by omega) ?_
  refine hl (bc fun h1 => by omega) ?_
  refine hl (bc fun h1 => by omega) ?_
  refine hl (bc fun h1 => by omega) ?_
  refine hl (bc fun h1 => by omega) ?_
  refine hl (bc fun h1 => by omega) ?_
  refine hl (bc fun h1 => by omega) ?_
  refine hl (bc fun h1 => by omega) ?_
  refine hl (bc fun h1 => by omega) ?_
  refine hl (bc fun h1 => by omega) ?_
  refine hl (bc fun h1 => by omega) ?_
  refine hl (bc fun h1 => by omega) ?_
  refine hl (bc fun h1 => by omega) ?_
  refine hl (bc fun h1 => by omega) ?_
  refine hl (bc fun h1 => by omega) ?_
  refine hl (bc fun h1 => by omega) ?_
  refine hl (bc fun h1 => by omega) ?_
  refine hl (bc fun h1 => by omega) ?_
  refine hl (bc fun h1 => by omega) ?_
  refine hl (bc fun h1 => by omega) ?_
  refine hl (bc fun h1 => by omega) ?_
  refine hl (bc fun h1 => by omega) ?_
  refine hl (bc fun h1 => by omega) ?_
  refine hl (bc fun h1 => by omega) ?_
  refine hl (bc fun h1 => by omega) ?_
  refine hl (bc fun h1 => by omega) ?_
  refine hl (bc fun h1 => by omega) ?_
  refine hl (bc fun h1 => by omega) ?_
  refine hl (bc fun h1 => by omega) ?_
  refine hl (bc fun h1 => by omega) ?_
  refine hl (bc fun h1 => by omega) ?_
  refine hl (bc fun h1 => by omega) ?_
  refine hold_stop (fun hd hb => ?_)
  have e0 : (p + (0 : Int)).toNat = p.toNat + 0 := by omega
  have e1 : (p + (1 : Int)).toNat = p.toNat + 1 := by omega
  have e2 : (p + (2 : Int)).toNat = p.toNat + 2 := by omega
  have e3 : (p + (3 : Int)).toNat = p.toNat + 3 := by omega
  have e4 : (p + (4 : Int)).toNat = p.toNat + 4 := by omega
  have e5 : (p + (5 : Int)).toNat = p.toNat + 5 := by omega
  have e6 : (p + (6 : Int)).toNat = p.toNat + 6 := by omega
  have e7 : (p + (7 : Int)).toNat = p.toNat + 7 := by omega
  exact ok_leafM1 hd hb (.inl ⟨⟨by omega, (n8_bd _).1, (n8_bd _).2⟩, rfl, rfl⟩) (fit_eq (by unfold n8 b8 sh; rw [e0, e1, e2, e3, e4, e5, e6, e7]; omega)) (by simp [fitsA, fitA, nf]) rfl
theorem rb1 (n : Nat) (y : Nat → Nat) (p : Int) (hn : n ≤ 5000) (hp : 0 ≤ p ∧ p ≤ n) : RunsM Tryz.prog 33 (rdG n y (.sint .i64 p) true) [.ptr 0 0, .int .i64 1] fun x G => x = .int .u64 0 ∧ G = rdG n y (.sint .i64 p) true := by
  refine runs_treeM plain mixed (fun _ => false) 60 (rdG n y (.sint .i64 p) true) ?_
  refine ok_sk (.r (.r (.l (.both (.stop [0]) (.l (.l (.l (.l (.l (.stop [0])))))))))) (S := .right (decide (p < 0)) (.right (decide ((↑n : Int) < p)) (.left (decide ((-9223372036854775808 : Int) ≤ (↑n : Int) - p ∧ (↑n : Int) - p ≤ 9223372036854775807)) (.fork (decide ((↑n : Int) - p < 1)) (.stop (Hd.leaf (.tuple [.int .u64 0, .gsl 0 0])) [0] ([bk 0 [.data 1 n (by8 y), .sint .i64 p, .bool true]])) (.left (decide ((-9223372036854775808 : Int) ≤ p + 0 ∧ p + 0 ≤ 9223372036854775807)) (.left (decide (0 ≤ p + 0 ∧ (p + 0).toNat < n)) (.left (decide (0 ≤ (↑(y (p + 0).toNat % 256) : Int) ∧ (↑(y (p + 0).toNat % 256) : Int) ≤ 18446744073709551615)) (.left (decide ((0 : Int) ≤ 0 + (↑(y (p + 0).toNat % 256) : Int) ∧ (0 : Int) + (↑(y (p + 0).toNat % 256) : Int) ≤ 18446744073709551615)) (.left (decide ((-9223372036854775808 : Int) ≤ p + 1 ∧ p + 1 ≤ 9223372036854775807)) (.stop (Hd.leaf (.tuple [.int .u64 0, .gsl 0 0])) [0] ([bk 0 [.data 1 n (by8 y), .sint .i64 p, .bool true]]))))))))))) (by kernel_rfl) ?_
  refine hzr (fun h0 => by omega) ?_
  refine hzr (fun h0 => by omega) ?_
  refine hl (bc fun h0 => by omega) ?_
  refine hold_forkD (fun h0 => ?_) (fun h0 => ?_)
  ·
   refine hold_stop (fun hd hb => ?_)
   exact ok_leafM1 hd hb ⟨rfl, rfl⟩ (by simp [fitA, nf]) (by simp [fitsA, fitA, nf]) rfl
  refine hl (bc fun h1 => by omega) ?_
  refine hl (bc fun h1 => by omega) ?_
  refine hl (bc fun h1 => by omega) ?_
  refine hl (bc fun h1 => by omega) ?_
  refine hl (bc fun h1 => by omega) ?_
  refine hold_stop (fun hd hb => ?_)
  exact ok_leafM1 hd hb ⟨rfl, rfl⟩ (by simp [fitA, nf]) (by simp [fitsA, fitA, nf]) rfl
theorem rb2 (n : Nat) (y : Nat → Nat) (p : Int) (hn : n ≤ 5000) (hp : 0 ≤ p ∧ p ≤ n) : RunsM Tryz.prog 33 (rdG n y (.sint .i64 p) true) [.ptr 0 0, .int .i64 2] fun x G => x = .int .u64 0 ∧ G = rdG n y (.sint .i64 p) true := by
  refine runs_treeM plain mixed (fun _ => false) 60 (rdG n y (.sint .i64 p) true) ?_
  refine ok_sk (.r (.r (.l (.both (.stop [0]) (.l (.l (.l (.l (.l (.l (.l (.l (.l (.l (.stop [0]))))))))))))))) (S := .right (decide (p < 0)) (.right (decide ((↑n : Int) < p)) (.left (decide ((-9223372036854775808 : Int) ≤ (↑n : Int) - p ∧ (↑n : Int) - p ≤ 9223372036854775807)) (.fork (decide ((↑n : Int) - p < 2)) (.stop (Hd.leaf (.tuple [.int .u64 0, .gsl 0 0])) [0] ([bk 0 [.data 1 n (by8 y), .sint .i64 p, .bool true]])) (.left (decide ((-9223372036854775808 : Int) ≤ p + 0 ∧ p + 0 ≤ 9223372036854775807)) (.left (decide (0 ≤ p + 0 ∧ (p + 0).toNat < n)) (.left (decide (0 ≤ (↑(y (p + 0).toNat % 256) : Int) ∧ (↑(y (p + 0).toNat % 256) : Int) ≤ 18446744073709551615)) (.left (decide ((0 : Int) ≤ 0 + (↑(y (p + 0).toNat % 256) : Int) ∧ (0 : Int) + (↑(y (p + 0).toNat % 256) : Int) ≤ 18446744073709551615)) (.left (decide ((0 : Int) ≤ 256 * ((0 : Int) + (↑(y (p + 0).toNat % 256) : Int)) ∧ (256 : Int) * ((0 : Int) + (↑(y (p + 0).toNat % 256) : Int)) ≤ 18446744073709551615)) (.left (decide ((-9223372036854775808 : Int) ≤ p + 1 ∧ p + 1 ≤ 9223372036854775807)) (.left (decide (0 ≤ p + 1 ∧ (p + 1).toNat < n)) (.left (decide (0 ≤ (↑(y (p + 1).toNat % 256) : Int) ∧ (↑(y (p + 1).toNat % 256) : Int) ≤ 18446744073709551615)) (.left (decide ((0 : Int) ≤ 256 * ((0 : Int) + (↑(y (p + 0).toNat % 256) : Int)) + (↑(y (p + 1).toNat % 256) : Int) ∧ (256 : Int) * ((0 : Int) + (↑(y (p + 0).toNat % 256) : Int)) + (↑(y (p + 1).toNat % 256) : Int) ≤ 18446744073709551615)) (.left (decide ((-9223372036854775808 : Int) ≤ p + 2 ∧ p + 2 ≤ 9223372036854775807)) (.stop (Hd.leaf (.tuple [.int .u64 0, .gsl 0 0])) [0] ([bk 0 [.data 1 n (by8 y), .sint .i64 p, .bool true]])))))))))))))))) (by kernel_rfl) ?_
  refine hzr (fun h0 => by omega) ?_
  refine hzr (fun h0 => by omega) ?_
  refine hl (bc fun h0 => by omega) ?_
  refine hold_forkD (fun h0 => ?_) (fun h0 => ?_)
  ·
   refine hold_stop (fun hd hb => ?_)
   exact ok_leafM1 hd hb ⟨rfl, rfl⟩ (by simp [fitA, nf]) (by simp [fitsA, fitA, nf]) rfl
  refine hl (bc fun h1 => by omega) ?_
  refine hl (bc fun h1 => by omega) ?_
  refine hl (bc fun h1 => by omega) ?_
  refine hl (bc fun h1 => by omega) ?_
  refine hl (bc fun h1 => by omega) ?_
  refine hl (bc fun h1 => by omega) ?_
  refine hl (bc fun h1 => by omega) ?_
  refine hl (bc fun h1 => by omega) ?_
  refine hl (bc fun h1 => by omega) ?_
  refine hl (bc fun h1 => by omega) ?_
  refine hold_stop (fun hd hb => ?_)
  exact ok_leafM1 hd hb ⟨rfl, rfl⟩ (by simp [fitA, nf]) (by simp [fitsA, fitA, nf]) rfl
theorem rb4 (n : Nat) (y : Nat → Nat) (p : Int) (hn : n ≤ 5000) (hp : 0 ≤ p ∧ p ≤ n) : RunsM Tryz.prog 33 (rdG n y (.sint .i64 p) true) [.ptr 0 0, .int .i64 4] fun x G => x = .int .u64 0 ∧ G = rdG n y (.sint .i64 p) true := by
  refine runs_treeM plain mixed (fun _ => false) 60 (rdG n y (.sint .i64 p) true) ?_
  refine ok_sk (.r (.r (.l (.both (.stop [0]) (.l (.l (.l (.l (.l (.l (.l (.l (.l (.l (.l (.l (.l (.l (.l (.l (.l (.l (.l (.l (.stop [0]))))))))))))))))))))))))) (S := .right (decide (p < 0)) (.right (decide ((↑n : Int) < p)) (.left (decide ((-9223372036854775808 : Int) ≤ (↑n : Int) - p ∧ (↑n : Int) - p ≤ 9223372036854775807)) (.fork (decide ((↑n : Int) - p < 4)) (.stop (Hd.leaf (.tuple [.int .u64 0, .gsl 0 0])) [0] ([bk 0 [.data 1 n (by8 y), .sint .i64 p, .bool true]])) (.left (decide ((-9223372036854775808 : Int) ≤ p + 0 ∧ p + 0 ≤ 9223372036854775807)) (.left (decide (0 ≤ p + 0 ∧ (p + 0).toNat < n)) (.left (decide (0 ≤ (↑(y (p + 0).toNat % 256) : Int) ∧ (↑(y (p + 0).toNat % 256) : Int) ≤ 18446744073709551615)) (.left (decide ((0 : Int) ≤ 0 + (↑(y (p + 0).toNat % 256) : Int) ∧ (0 : Int) + (↑(y (p + 0).toNat % 256) : Int) ≤ 18446744073709551615)) (.left (decide ((0 : Int) ≤ 256 * ((0 : Int) + (↑(y (p + 0).toNat % 256) : Int)) ∧ (256 : Int) * ((0 : Int) + (↑(y (p + 0).toNat % 256) : Int)) ≤ 18446744073709551615)) (.left (decide ((-9223372036854775808 : Int) ≤ p + 1 ∧ p + 1 ≤ 9223372036854775807)) (.left (decide (0 ≤ p + 1 ∧ (p + 1).toNat < n)) (.left (decide (0 ≤ (↑(y (p + 1).toNat % 256) : Int) ∧ (↑(y (p + 1).toNat % 256) : Int) ≤ 18446744073709551615)) (.left (decide ((0 : Int) ≤ 256 * ((0 : Int) + (↑(y (p + 0).toNat % 256) : Int)) + (↑(y (p + 1).toNat % 256) : Int) ∧ (256 : Int) * ((0 : Int) + (↑(y (p + 0).toNat % 256) : Int)) + (↑(y (p + 1).toNat % 256) : Int) ≤ 18446744073709551615)) (.left (decide ((0 : Int) ≤ 256 * ((256 : Int) * ((0 : Int) + (↑(y (p + 0).toNat % 256) : Int)) + (↑(y (p + 1).toNat % 256) : Int)) ∧ (256 : Int) * ((256 : Int) * ((0 : Int) + (↑(y (p + 0).toNat % 256) : Int)) + (↑(y (p + 1).toNat % 256) : Int)) ≤ 18446744073709551615)) (.left (decide ((-9223372036854775808 : Int) ≤ p + 2 ∧ p + 2 ≤ 9223372036854775807)) (.left (decide (0 ≤ p + 2 ∧ (p + 2).toNat < n)) (.left (decide (0 ≤ (↑(y (p + 2).toNat % 256) : Int) ∧ (↑(y (p + 2).toNat % 256) : Int) ≤ 18446744073709551615)) (.left (decide ((0 : Int) ≤ 256 * ((256 : Int) * ((0 : Int) + (↑(y (p + 0).toNat % 256) : Int)) + (↑(y (p + 1).toNat % 256) : Int)) + (↑(y (p + 2).toNat % 256) : Int) ∧ (256 : Int) * ((256 : Int) * ((0 : Int) + (↑(y (p + 0).toNat % 256) : Int)) + (↑(y (p + 1).toNat % 256) : Int)) + (↑(y (p + 2).toNat % 256) : Int) ≤ 18446744073709551615)) (.left (decide ((0 : Int) ≤ 256 * ((256 : Int) * ((256 : Int) * ((0 : Int) + (↑(y (p + 0).toNat % 256) : Int)) + (↑(y (p + 1).toNat % 256) : Int)) + (↑(y (p + 2).toNat % 256) : Int)) ∧ (256 : Int) * ((256 : Int) * ((256 : Int) * ((0 : Int) + (↑(y (p + 0).toNat % 256) : Int)) + (↑(y (p + 1).toNat % 256) : Int)) + (↑(y (p + 2).toNat % 256) : Int)) ≤ 18446744073709551615)) (.left (decide ((-9223372036854775808 : Int) ≤ p + 3 ∧ p + 3 ≤ 9223372036854775807)) (.left (decide (0 ≤ p + 3 ∧ (p + 3).toNat < n)) (.left (decide (0 ≤ (↑(y (p + 3).toNat % 256) : Int) ∧ (↑(y (p + 3).toNat % 256) : Int) ≤ 18446744073709551615)) (.left (decide ((0 : Int) ≤ 256 * ((256 : Int) * ((256 : Int) * ((0 : Int) + (↑(y (p + 0).toNat % 256) : Int)) + (↑(y (p + 1).toNat % 256) : Int)) + (↑(y (p + 2).toNat % 256) : Int)) + (↑(y (p + 3).toNat % 256) : Int) ∧ (256 : Int) * ((256 : Int) * ((256 : Int) * ((0 : Int) + (↑(y (p + 0).toNat % 256) : Int)) + (↑(y (p + 1).toNat % 256) : Int)) + (↑(y (p + 2).toNat % 256) : Int)) + (↑(y (p + 3).toNat % 256) : Int) ≤ 18446744073709551615)) (.left (decide ((-9223372036854775808 : Int) ≤ p + 4 ∧ p + 4 ≤ 9223372036854775807)) (.stop (Hd.leaf (.tuple [.int .u64 0, .gsl 0 0])) [0] ([bk 0 [.data 1 n (by8 y), .sint .i64 p, .bool true]])))))))))))))))))))))))))) (by kernel_rfl) ?_
  refine hzr (fun h0 => by omega) ?_
  refine hzr (fun h0 => by omega) ?_
  refine hl (bc fun h0 => by omega) ?_
  refine hold_forkD (fun h0 => ?_) (fun h0 => ?_)
  ·
   refine hold_stop (fun hd hb => ?_)
   exact ok_leafM1 hd hb ⟨rfl, rfl⟩ (by simp [fitA, nf]) (by simp [fitsA, fitA, nf]) rfl
  refine hl (bc fun h1 => by omega) ?_
  refine hl (bc fun h1 => by omega) ?_
  refine hl (bc fun h1 => by omega) ?_
  refine hl (bc fun h1 => by omega) ?_
  refine hl (bc fun h1 => by omega) ?_
  refine hl (bc fun h1 => by omega) ?_
  refine hl (bc fun h1 => by omega) ?_
  refine hl (bc fun h1 => by omega) ?_
  refine hl (bc fun h1 => by omega) ?_
  refine hl (bc fun h1 => by omega) ?_
  refine hl (bc fun h1 => by omega) ?_
  refine hl (bc fun h1 => by omega) ?_
  refine hl (bc fun h1 => by omega) ?_
  refine hl (bc fun h1 => by omega) ?_
  refine hl (bc fun h1 => by omega) ?_
  refine hl (bc fun h1 => by omega) ?_
  refine hl (bc fun h1 => by omega) ?_
  refine hl (bc fun h1 => by omega) ?_
  refine hl (bc fun h1 => by omega) ?_
  refine hl (bc fun h1 => by omega) ?_
  refine hold_stop (fun hd hb => ?_)
  exact ok_leafM1 hd hb ⟨rfl, rfl⟩ (by simp [fitA, nf]) (by simp [fitsA, fitA, nf]) rfl
theorem rb8 (n : Nat) (y : Nat → Nat) (p : Int) (hn : n ≤ 5000) (hp : 0 ≤ p ∧ p ≤ n) : RunsM Tryz.prog 33 (rdG n y (.sint .i64 p) true) [.ptr 0 0, .int .i64 8] fun x G => x = .int .u64 0 ∧ G = rdG n y (.sint .i64 p) true := by
  refine runs_treeM plain mixed (fun _ => false) 60 (rdG n y (.sint .i64 p) true) ?_
  refine ok_sk (.r (.r (.l (.both (.stop [0]) (.l (.l (.l (.l (.l (.l (.l (.l (.l (.l (.l (.l (.l (.l (.l (.l (.l (.l (.l (.l (.l (.l (.l (.l (.l (.l (.l (.l (.l (.l (.l (.l (.l (.l (.l (.l (.l (.l (.l (.l (.stop [0]))))))))))))))))))))))))))))))))))))))))))))) (S := .right (decide (p < 0)) (.right (decide ((↑n : Int) < p)) (.left (decide ((-9223372036854775808 : Int) ≤ (↑n : Int) - p ∧ (↑n : Int) - p ≤ 9223372036854775807)) (.fork (decide ((↑n : Int) - p < 8)) (.stop (Hd.leaf (.tuple [.int .u64 0, .gsl 0 0])) [0] ([bk 0 [.data 1 n (by8 y), .sint .i64 p, .bool true]])) (.left (decide ((-9223372036854775808 : Int) ≤ p + 0 ∧ p + 0 ≤ 9223372036854775807)) (.left (decide (0 ≤ p + 0 ∧ (p + 0).toNat < n)) (.left (decide (0 ≤ (↑(y (p + 0).toNat % 256) : Int) ∧ (↑(y (p + 0).toNat % 256) : Int) ≤ 18446744073709551615)) (.left (decide ((0 : Int) ≤ 0 + (↑(y (p + 0).toNat % 256) : Int) ∧ (0 : Int) + (↑(y (p + 0).toNat % 256) : Int) ≤ 18446744073709551615)) (.left (decide ((0 : Int) ≤ 256 * ((0 : Int) + (↑(y (p + 0).toNat % 256) : Int)) ∧ (256 : Int) * ((0 : Int) + (↑(y (p + 0).toNat % 256) : Int)) ≤ 18446744073709551615)) (.left (decide ((-9223372036854775808 : Int) ≤ p + 1 ∧ p + 1 ≤ 9223372036854775807)) (.left (decide (0 ≤ p + 1 ∧ (p + 1).toNat < n)) (.left (decide (0 ≤ (↑(y (p + 1).toNat % 256) : Int) ∧ (↑(y (p + 1).toNat % 256) : Int) ≤ 18446744073709551615)) (.left (decide ((0 : Int) ≤ 256 * ((0 : Int) + (↑(y (p + 0).toNat % 256) : Int)) + (↑(y (p + 1).toNat % 256) : Int) ∧ (256 : Int) * ((0 : Int) + (↑(y (p + 0).toNat % 256) : Int)) + (↑(y (p + 1).toNat % 256) : Int) ≤ 18446744073709551615)) (.left (decide ((0 : Int) ≤ 256 * ((256 : Int) * ((0 : Int) + (↑(y (p + 0).toNat % 256) : Int)) + (↑(y (p + 1).toNat % 256) : Int)) ∧ (256 : Int) * ((256 : Int) * ((0 : Int) + (↑(y (p + 0).toNat % 256) : Int)) + (↑(y (p + 1).toNat % 256) : Int)) ≤ 18446744073709551615)) (.left (decide ((-9223372036854775808 : Int) ≤ p + 2 ∧ p + 2 ≤ 9223372036854775807)) (.left (decide (0 ≤ p + 2 ∧ (p + 2).toNat < n)) (.left (decide (0 ≤ (↑(y (p + 2).toNat % 256) : Int) ∧ (↑(y (p + 2).toNat % 256) : Int) ≤ 18446744073709551615)) (.left (decide ((0 : Int) ≤ 256 * ((256 : Int) * ((0 : Int) + (↑(y (p + 0).toNat % 256) : Int)) + (↑(y (p + 1).toNat % 256) : Int)) + (↑(y (p + 2).toNat % 256) : Int) ∧ (256 : Int) * ((256 : Int) * ((0 : Int) + (↑(y (p + 0).toNat % 256) : Int)) + (↑(y (p + 1).toNat % 256) : Int)) + (↑(y (p + 2).toNat % 256) : Int) ≤ 18446744073709551615)) (.left (decide ((0 : Int) ≤ 256 * ((256 : Int) * ((256 : Int) * ((0 : Int) + (↑(y (p + 0).toNat % 256) : Int)) + (↑(y (p + 1).toNat % 256) : Int)) + (↑(y (p + 2).toNat % 256) : Int)) ∧ (256 : Int) * ((256 : Int) * ((256 : Int) * ((0 : Int) + (↑(y (p + 0).toNat % 256) : Int)) + (↑(y (p + 1).toNat % 256) : Int)) + (↑(y (p + 2).toNat % 256) : Int)) ≤ 18446744073709551615)) (.left (decide ((-9223372036854775808 : Int) ≤ p + 3 ∧ p + 3 ≤ 9223372036854775807)) (.left (decide (0 ≤ p + 3 ∧ (p + 3).toNat < n)) (.left (decide (0 ≤ (↑(y (p + 3).toNat % 256) : Int) ∧ (↑(y (p + 3).toNat % 256) : Int) ≤ 18446744073709551615)) (.left (decide ((0 : Int) ≤ 256 * ((256 : Int) * ((256 : Int) * ((0 : Int) + (↑(y (p + 0).toNat % 256) : Int)) + (↑(y (p + 1).toNat % 256) : Int)) + (↑(y (p + 2).toNat % 256) : Int)) + (↑(y (p + 3).toNat % 256) : Int) ∧ (256 : Int) * ((256 : Int) * ((256 : Int) * ((0 : Int) + (↑(y (p + 0).toNat % 256) : Int)) + (↑(y (p + 1).toNat % 256) : Int)) + (↑(y (p + 2).toNat % 256) : Int)) + (↑(y (p + 3).toNat % 256) : Int) ≤ 18446744073709551615)) (.left (decide ((0 : Int) ≤ 256 * ((256 : Int) * ((256 : Int) * ((256 : Int) * ((0 : Int) + (↑(y (p + 0).toNat % 256) : Int)) + (↑(y (p + 1).toNat % 256) : Int)) + (↑(y (p + 2).toNat % 256) : Int)) + (↑(y (p + 3).toNat % 256) : Int)) ∧ (256 : Int) * ((256 : Int) * ((256 : Int) * ((256 : Int) * ((0 : Int) + (↑(y (p + 0).toNat % 256) : Int)) + (↑(y (p + 1).toNat % 256) : Int)) + (↑(y (p + 2).toNat % 256) : Int)) + (↑(y (p + 3).toNat % 256) : Int)) ≤ 18446744073709551615)) (.left (decide ((-9223372036854775808 : Int) ≤ p + 4 ∧ p + 4 ≤ 9223372036854775807)) (.left (decide (0 ≤ p + 4 ∧ (p + 4).toNat < n)) (.left (decide (0 ≤ (↑(y (p + 4).toNat % 256) : Int) ∧ (↑(y (p + 4).toNat % 256) : Int) ≤ 18446744073709551615)) (.left (decide ((0 : Int) ≤ 256 * ((256 : Int) * ((256 : Int) * ((256 : Int) * ((0 : Int) + (↑(y (p + 0).toNat % 256) : Int)) + (↑(y (p + 1).toNat % 256) : Int)) + (↑(y (p + 2).toNat % 256) : Int)) + (↑(y (p + 3).toNat % 256) : Int)) + (↑(y (p + 4).toNat % 256) : Int) ∧ (256 : Int) * ((256 : Int) * ((256 : Int) * ((256 : Int) * ((0 : Int) + (↑(y (p + 0).toNat % 256) : Int)) + (↑(y (p + 1).toNat % 256) : Int)) + (↑(y (p + 2).toNat % 256) : Int)) + (↑(y (p + 3).toNat % 256) : Int)) + (↑(y (p + 4).toNat % 256) : Int) ≤ 18446744073709551615)) (.left (decide ((0 : Int) ≤ 256 * ((256 : Int) * ((256 : Int) * ((256 : Int) * ((256 : Int) * ((0 : Int) + (↑(y (p + 0).toNat % 256) : Int)) + (↑(y (p + 1).toNat % 256) : Int)) + (↑(y (p + 2).toNat % 256) : Int)) + (↑(y (p + 3).toNat % 256) : Int)) + (↑(y (p + 4).toNat % 256) : Int)) ∧ (256 : Int) * ((256 : Int) * ((256 : Int) * ((256 : Int) * ((256 : Int) * ((0 : Int) + (↑(y (p + 0).toNat % 256) : Int)) + (↑(y (p + 1).toNat % 256) : Int)) + (↑(y (p + 2).toNat % 256) : Int)) + (↑(y (p + 3).toNat % 256) : Int)) + (↑(y (p + 4).toNat % 256) : Int)) ≤ 18446744073709551615)) (.left (decide ((-9223372036854775808 : Int) ≤ p + 5 ∧ p + 5 ≤ 9223372036854775807)) (.left (decide (0 ≤ p + 5 ∧ (p + 5).toNat < n)) (.left (decide (0 ≤ (↑(y (p + 5).toNat % 256) : Int) ∧ (↑(y (p + 5).toNat % 256) : Int) ≤ 18446744073709551615)) (.left (decide ((0 : Int) ≤ 256 * ((256 : Int) * ((256 : Int) * ((256 : Int) * ((256 : Int) * ((0 : Int) + (↑(y (p + 0).toNat % 256) : Int)) + (↑(y (p + 1).toNat % 256) : Int)) + (↑(y (p + 2).toNat % 256) : Int)) + (↑(y (p + 3).toNat % 256) : Int)) + (↑(y (p + 4).toNat % 256) : Int)) + (↑(y (p + 5).toNat % 256) : Int) ∧ (256 : Int) * ((256 : Int) * ((256 : Int) * ((256 : Int) * ((256 : Int) * ((0 : Int) + (↑(y (p + 0).toNat % 256) : Int)) + (↑(y (p + 1).toNat % 256) : Int)) + (↑(y (p + 2).toNat % 256) : Int)) + (↑(y (p + 3).toNat % 256) : Int)) + (↑(y (p + 4).toNat % 256) : Int)) + (↑(y (p + 5).toNat % 256) : Int) ≤ 18446744073709551615)) (.left (decide ((0 : Int) ≤ 256 * ((256 : Int) * ((256 : Int) * ((256 : Int) * ((256 : Int) * ((256 : Int) * ((0 : Int) + (↑(y (p + 0).toNat % 256) : Int)) + (↑(y (p + 1).toNat % 256) : Int)) + (↑(y (p + 2).toNat % 256) : Int)) + (↑(y (p + 3).toNat % 256) : Int)) + (↑(y (p + 4).toNat % 256) : Int)) + (↑(y (p + 5).toNat % 256) : Int)) ∧ (256 : Int) * ((256 : Int) * ((256 : Int) * ((256 : Int) * ((256 : Int) * ((256 : Int) * ((0 : Int) + (↑(y (p + 0).toNat % 256) : Int)) + (↑(y (p + 1).toNat % 256) : Int)) + (↑(y (p + 2).toNat % 256) : Int)) + (↑(y (p + 3).toNat % 256) : Int)) + (↑(y (p + 4).toNat % 256) : Int)) + (↑(y (p + 5).toNat % 256) : Int)) ≤ 18446744073709551615)) (.left (decide ((-9223372036854775808 : Int) ≤ p + 6 ∧ p + 6 ≤ 9223372036854775807)) (.left (decide (0 ≤ p + 6 ∧ (p + 6).toNat < n)) (.left (decide (0 ≤ (↑(y (p + 6).toNat % 256) : Int) ∧ (↑(y (p + 6).toNat % 256) : Int) ≤ 18446744073709551615)) (.left (decide ((0 : Int) ≤ 256 * ((256 : Int) * ((256 : Int) * ((256 : Int) * ((256 : Int) * ((256 : Int) * ((0 : Int) + (↑(y (p + 0).toNat % 256) : Int)) + (↑(y (p + 1).toNat % 256) : Int)) + (↑(y (p + 2).toNat % 256) : Int)) + (↑(y (p + 3).toNat % 256) : Int)) + (↑(y (p + 4).toNat % 256) : Int)) + (↑(y (p + 5).toNat % 256) : Int)) + (↑(y (p + 6).toNat % 256) : Int) ∧ (256 : Int) * ((256 : Int) * ((256 : Int) * ((256 : Int) * ((256 : Int) * ((256 : Int) * ((0 : Int) + (↑(y (p + 0).toNat % 256) : Int)) + (↑(y (p + 1).toNat % 256) : Int)) + (↑(y (p + 2).toNat % 256) : Int)) + (↑(y (p + 3).toNat % 256) : Int)) + (↑(y (p + 4).toNat % 256) : Int)) + (↑(y (p + 5).toNat % 256) : Int)) + (↑(y (p + 6).toNat % 256) : Int) ≤ 18446744073709551615)) (.left (decide ((0 : Int) ≤ 256 * ((256 : Int) * ((256 : Int) * ((256 : Int) * ((256 : Int) * ((256 : Int) * ((256 : Int) * ((0 : Int) + (↑(y (p + 0).toNat % 256) : Int)) + (↑(y (p + 1).toNat % 256) : Int)) + (↑(y (p + 2).toNat % 256) : Int)) + (↑(y (p + 3).toNat % 256) : Int)) + (↑(y (p + 4).toNat % 256) : Int)) + (↑(y (p + 5).toNat % 256) : Int)) + (↑(y (p + 6).toNat % 256) : Int)) ∧ (256 : Int) * ((256 : Int) * ((256 : Int) * ((256 : Int) * ((256 : Int) * ((256 : Int) * ((256 : Int) * ((0 : Int) + (↑(y (p + 0).toNat % 256) : Int)) + (↑(y (p + 1).toNat % 256) : Int)) + (↑(y (p + 2).toNat % 256) : Int)) + (↑(y (p + 3).toNat % 256) : Int)) + (↑(y (p + 4).toNat % 256) : Int)) + (↑(y (p + 5).toNat % 256) : Int)) + (↑(y (p + 6).toNat % 256) : Int)) ≤ 18446744073709551615)) (.left (decide ((-9223372036854775808 : Int) ≤ p + 7 ∧ p + 7 ≤ 9223372036854775807)) (.left (decide (0 ≤ p + 7 ∧ (p + 7).toNat < n)) (.left (decide (0 ≤ (↑(y (p + 7).toNat % 256) : Int) ∧ (↑(y (p + 7).toNat % 256) : Int) ≤ 18446744073709551615)) (.left (decide ((0 : Int) ≤ 256 * ((256 : Int) * ((256 : Int) * ((256 : Int) * ((256 : Int) * ((256 : Int) * ((256 : Int) * ((0 : Int) + (↑(y (p + 0).toNat % 256) : Int)) + (↑(y (p + 1).toNat % 256) : Int)) + (↑(y (p + 2).toNat % 256) : Int)) + (↑(y (p + 3).toNat % 256) : Int)) + (↑(y (p + 4).toNat % 256) : Int)) + (↑(y (p + 5).toNat % 256) : Int)) + (↑(y (p + 6).toNat % 256) : Int)) + (↑(y (p + 7).toNat % 256) : Int) ∧ (256 : Int) * ((256 : Int) * ((256 : Int) * ((256 : Int) * ((256 : Int) * ((256 : Int) * ((256 : Int) * ((0 : Int) + (↑(y (p + 0).toNat % 256) : Int)) + (↑(y (p + 1).toNat % 256) : Int)) + (↑(y (p + 2).toNat % 256) : Int)) + (↑(y (p + 3).toNat % 256) : Int)) + (↑(y (p + 4).toNat % 256) : Int)) + (↑(y (p + 5).toNat % 256) : Int)) + (↑(y (p + 6).toNat % 256) : Int)) + (↑(y (p + 7).toNat % 256) : Int) ≤ 18446744073709551615)) (.left (decide ((-9223372036854775808 : Int) ≤ p + 8 ∧ p + 8 ≤ 9223372036854775807)) (.stop (Hd.leaf (.tuple [.int .u64 0, .gsl 0 0])) [0] ([bk 0 [.data 1 n (by8 y), .sint .i64 p, .bool true]])))))))))))))))))))))))))))))))))))))))))))))) (by kernel_rfl) ?_
  refine hzr (fun h0 => by omega) ?_
  refine hzr (fun h0 => by omega) ?_
  refine hl (bc fun h0 => by omega) ?_
  refine hold_forkD (fun h0 => ?_) (fun h0 => ?_)
  ·
   refine hold_stop (fun hd hb => ?_)
   exact ok_leafM1 hd hb ⟨rfl, rfl⟩ (by simp [fitA, nf]) (by simp [fitsA, fitA, nf]) rfl
  refine hl (bc fun h1 => by omega) ?_
  refine hl (bc fun h1 => by omega) ?_
  refine hl (bc fun h1 => by omega) ?_
  refine hl (bc fun h1 => by omega) ?_
  refine hl (bc fun h1 => by omega) ?_
  refine hl (bc fun h1 => by omega) ?_
  refine hl (bc fun h1 => by omega) ?_
  refine hl (bc fun h1 => by omega) ?_
  refine hl (bc fun h1 => by omega) ?_
  refine hl (bc fun h1 => by omega) ?_
  refine hl (bc fun h1 => by omega) ?_
  refine hl (bc fun h1 => by omega) ?_
  refine hl (bc fun h1 => by omega) ?_
  refine hl (bc fun h1 => by omega) ?_
  refine hl (bc fun h1 => by omega) ?_
  refine hl (bc fun h1 => by omega) ?_
  refine hl (bc fun h1 => by omega) ?_
  refine hl (bc fun h1 => by omega) ?_
  refine hl (bc fun h1 => by omega) ?_
  refine hl (bc fun h1 => by omega) ?_
  refine hl (bc fun h1 => by omega) ?_
  refine hl (bc fun h1 => by omega) ?_
  refine hl (bc fun h1 => by omega) ?_
  refine hl (bc fun h1 => by omega) ?_
  refine hl (bc fun h1 => by omega) ?_
  refine hl (bc fun h1 => by omega) ?_
  refine hl (bc fun h1 => by omega) ?_
  refine hl (bc fun h1 => by omega) ?_
  refine hl (bc fun h1 => by omega) ?_
  refine hl (bc fun h1 => by omega) ?_
  refine hl (bc fun h1 => by omega) ?_
  refine hl (bc fun h1 => by omega) ?_
  refine hl (bc fun h1 => by omega) ?_
  refine hl (bc fun h1 => by omega) ?_
  refine hl (bc fun h1 => by omega) ?_
  refine hl (bc fun h1 => by omega) ?_
  refine hl (bc fun h1 => by omega) ?_
  refine hl (bc fun h1 => by omega) ?_
  refine hl (bc fun h1 => by omega) ?_
  refine hl (bc fun h1 => by omega) ?_
  refine hold_stop (fun hd hb => ?_)
  exact ok_leafM1 hd hb ⟨rfl, rfl⟩ (by simp [fitA, nf]) (by simp [fitsA, fitA, nf]) rfl
end Go.Proofs.YtkebdfbdneggkaaGreat
namespace Go.Proofs.YtkebdfbdneggkaaGreat
open Go Go.RowKit Sv
set_option linter.unusedVariables false
set_option linter.unusedSimpArgs false
set_option maxRecDepth 100000
set_option maxHeartbeats 0
theorem n8_b0 (z : Nat → Nat) : n8 z / 72057594037927936 % 256 = b8 z 0 := by
  have b0 := b8_bd z 0
  have b1 := b8_bd z 1
  have b2 := b8_bd z 2
  have b3 := b8_bd z 3
  have b4 := b8_bd z 4
  have b5 := b8_bd z 5
  have b6 := b8_bd z 6
  have b7 := b8_bd z 7
  unfold n8
  omega
theorem n8_b1 (z : Nat → Nat) : n8 z / 281474976710656 % 256 = b8 z 1 := by
  have b0 := b8_bd z 0
  have b1 := b8_bd z 1
  have b2 := b8_bd z 2
  have b3 := b8_bd z 3
  have b4 := b8_bd z 4
  have b5 := b8_bd z 5
  have b6 := b8_bd z 6
  have b7 := b8_bd z 7
  unfold n8
  omega
theorem n8_b2 (z : Nat → Nat) : n8 z / 1099511627776 % 256 = b8 z 2 := by
  have b0 := b8_bd z 0
  have b1 := b8_bd z 1
  have b2 := b8_bd z 2
  have b3 := b8_bd z 3
  have b4 := b8_bd z 4
  have b5 := b8_bd z 5
  have b6 := b8_bd z 6
  have b7 := b8_bd z 7
  unfold n8
  omega
theorem n8_b3 (z : Nat → Nat) : n8 z / 4294967296 % 256 = b8 z 3 := by
  have b0 := b8_bd z 0
  have b1 := b8_bd z 1
  have b2 := b8_bd z 2
  have b3 := b8_bd z 3
  have b4 := b8_bd z 4
  have b5 := b8_bd z 5
  have b6 := b8_bd z 6
  have b7 := b8_bd z 7
  unfold n8
  omega
theorem n8_b4 (z : Nat → Nat) : n8 z / 16777216 % 256 = b8 z 4 := by
  have b0 := b8_bd z 0
  have b1 := b8_bd z 1
  have b2 := b8_bd z 2
  have b3 := b8_bd z 3
  have b4 := b8_bd z 4
  have b5 := b8_bd z 5
  have b6 := b8_bd z 6
  have b7 := b8_bd z 7
  unfold n8
  omega
theorem n8_b5 (z : Nat → Nat) : n8 z / 65536 % 256 = b8 z 5 := by
  have b0 := b8_bd z 0
  have b1 := b8_bd z 1
  have b2 := b8_bd z 2
  have b3 := b8_bd z 3
  have b4 := b8_bd z 4
  have b5 := b8_bd z 5
  have b6 := b8_bd z 6
  have b7 := b8_bd z 7
  unfold n8
  omega
theorem n8_b6 (z : Nat → Nat) : n8 z / 256 % 256 = b8 z 6 := by
  have b0 := b8_bd z 0
  have b1 := b8_bd z 1
  have b2 := b8_bd z 2
  have b3 := b8_bd z 3
  have b4 := b8_bd z 4
  have b5 := b8_bd z 5
  have b6 := b8_bd z 6
  have b7 := b8_bd z 7
  unfold n8
  omega
theorem n8_b7 (z : Nat → Nat) : n8 z % 256 = b8 z 7 := by
  have b0 := b8_bd z 0
  have b1 := b8_bd z 1
  have b2 := b8_bd z 2
  have b3 := b8_bd z 3
  have b4 := b8_bd z 4
  have b5 := b8_bd z 5
  have b6 := b8_bd z 6
  have b7 := b8_bd z 7
  unfold n8
  omega
theorem n1_m (y : Nat → Nat) (k : Nat) : n1 (sh y k) % 256 % 256 = b8 (sh y k) 0 := by
  have b0 := b8_bd (sh y k) 0
  unfold n1
  omega
theorem n2_a (z : Nat → Nat) : n2 z / 256 % 256 = b8 z 0 := by
  have b0 := b8_bd z 0
  have b1 := b8_bd z 1
  unfold n2
  omega
theorem n2_b (z : Nat → Nat) : n2 z % 256 = b8 z 1 := by
  have b0 := b8_bd z 0
  have b1 := b8_bd z 1
  unfold n2
  omega
theorem n4_a (z : Nat → Nat) : n4 z / 16777216 % 256 = b8 z 0 := by
  have b0 := b8_bd z 0
  have b1 := b8_bd z 1
  have b2 := b8_bd z 2
  have b3 := b8_bd z 3
  unfold n4
  omega
theorem n4_b (z : Nat → Nat) : n4 z / 65536 % 256 = b8 z 1 := by
  have b0 := b8_bd z 0
  have b1 := b8_bd z 1
  have b2 := b8_bd z 2
  have b3 := b8_bd z 3
  unfold n4
  omega
theorem n4_c (z : Nat → Nat) : n4 z / 256 % 256 = b8 z 2 := by
  have b0 := b8_bd z 0
  have b1 := b8_bd z 1
  have b2 := b8_bd z 2
  have b3 := b8_bd z 3
  unfold n4
  omega
theorem n4_d (z : Nat → Nat) : n4 z % 256 = b8 z 3 := by
  have b0 := b8_bd z 0
  have b1 := b8_bd z 1
  have b2 := b8_bd z 2
  have b3 := b8_bd z 3
  unfold n4
  omega
theorem hd_back {y : Nat → Nat} {q : Nat} (hq : (q : Int) = n1 (sh y 46)) : (stY y (n8 (sh y 22) - 1)).hd q = (List.range 47).map (b8 y) := by
  have e : (q : Int) % 256 = b8 (sh y 46) 0 := by
    have b0 := b8_bd (sh y 46) 0
    rw [hq]
    unfold n1
    omega
  unfold stY StI.hd
  simp only [Int.sub_add_cancel, n8_b0, n8_b1, n8_b2, n8_b3, n8_b4, n8_b5, n8_b6, n8_b7, n1_m, n2_a, n2_b, n4_a, n4_b, n4_c, n4_d, e]
  rfl
theorem getD_rng {g : Nat → Int} {n i : Nat} (h : i < n) : ((List.range n).map g).getD i 0 = g i := by
  rw [List.getD_eq_getElem?_getD, List.getElem?_map, List.getElem?_range h]
  rfl
theorem row_back {y : Nat → Nat} {q : Nat} (hq : (q : Int) = n1 (sh y 46)) (j : Nat) : rowT (stY y (n8 (sh y 22) - 1)) q (pkI y) j = by8 y j := by
  unfold rowT
  by_cases h : j < 47
  · rw [if_pos h, hd_back hq, getD_rng h]
    rfl
  · rw [if_neg h]
    have e : (pkI y (j - 47) + 1) % 256 = b8 y j := by
      unfold pkI
      have b0 := b8_bd (sh y (47 + (j - 47))) 0
      have e2 : b8 (sh y (47 + (j - 47))) 0 = b8 y j := by
        unfold b8 sh
        rw [show 47 + (j - 47) + 0 = j by omega]
      unfold n1
      omega
    rw [e]
    rfl
theorem bytes_ext {n : Nat} {f g : Nat → List AV} (h : ∀ i, i < n → f i = g i) : bytesOf n f = bytesOf n g := by
  unfold bytesOf
  exact List.map_congr_left fun i hi => by rw [h i (List.mem_range.1 hi)]
theorem all_by8 (n : Nat) (y : Nat → Nat) : AllBytes n (by8 y) := fun i hi => by
  refine ⟨?_, ?_⟩
  · show (0 : Int) ≤ ((y i % 256 : Nat) : Int)
    omega
  · show ((y i % 256 : Nat) : Int) < 256
    omega
theorem all_rowT (n : Nat) (s : StI) (q : Nat) (P : Nat → Int) : AllBytes n (rowT s q P) := fun i hi => by
  have := rowI_bd s q P i
  exact this
theorem bytes_len {n : Nat} {f : Nat → List AV} : (bytesOf n f).length = n := by simp [bytesOf]
theorem fits3t {H : AH} {j0 j1 j2 c0 c1 c2 : Nat} {g0 g1 g2 : Option Nat} {cs0 cs1 cs2 ds0 ds1 ds2 xs bs : List AV} (a0 : H.tr.get j0 = some (.cells c0 g0 cs0)) (a1 : H.tr.get j1 = some (.cells c1 g1 cs1)) (a2 : H.tr.get j2 = some (.cells c2 g2 cs2)) (hd : [c0, c1, c2].Pairwise (· ≠ ·)) (hx : fitsA [some j0, some j1, some j2] bs xs)
    (h0 : fitsA [some j0, some j1, some j2] ds0 cs0) (h1 : fitsA [some j0, some j1, some j2] ds1 cs1) (h2 : fitsA [some j0, some j1, some j2] ds2 cs2) : Fits [some j0, some j1, some j2] xs H bs [.cells g0 ds0, .cells g1 ds1, .cells g2 ds2] := by
  refine ⟨hx, ⟨⟨_, _, a0, h0⟩, ⟨_, _, a1, h1⟩, ⟨_, _, a2, h2⟩, trivial⟩, ?_⟩
  have e : ([some j0, some j1, some j2].map fun o => o.bind H.clsOf) = [c0, c1, c2].map some := by simp [AH.clsOf, a0, a1, a2, Blk.cls]
  rw [e]
  exact List.pairwise_map.2 (hd.imp fun h => .inr (by simpa using h))
theorem fits3n {H : AH} {j0 j1 j2 c0 c1 c2 z : Nat} {g0 g1 g2 : Option Nat} {cs0 cs1 cs2 ds0 ds1 ds2 xs bs : List AV} {f : Nat → List AV} (a0 : H.tr.get j0 = some (.cells c0 g0 cs0)) (a1 : H.tr.get j1 = some (.cells c1 g1 cs1)) (a2 : H.tr.get j2 = some (.cells c2 g2 cs2)) (hd : [c0, c1, c2].Pairwise (· ≠ ·)) (hx : fitsA [some j0, some j1, some j2, none] bs xs)
    (h0 : fitsA [some j0, some j1, some j2, none] ds0 cs0) (h1 : fitsA [some j0, some j1, some j2, none] ds1 cs1) (h2 : fitsA [some j0, some j1, some j2, none] ds2 cs2) : Fits [some j0, some j1, some j2, none] xs H bs [.cells g0 ds0, .cells g1 ds1, .cells g2 ds2, .seq z 0 f] := by
  refine ⟨hx, ⟨⟨_, _, a0, h0⟩, ⟨_, _, a1, h1⟩, ⟨_, _, a2, h2⟩, rfl, trivial⟩, ?_⟩
  have e : ([some j0, some j1, some j2, none].map fun o => o.bind H.clsOf) = ([c0, c1, c2].map some) ++ [none] := by simp [AH.clsOf, a0, a1, a2, Blk.cls]
  rw [e, List.pairwise_append]
  refine ⟨List.pairwise_map.2 (hd.imp fun h => .inr (by simpa using h)), by simp, fun x hx z hz => ?_⟩
  simp at hz; subst hz
  simp at hx
  rcases hx with h | h | h <;> subst h <;> exact .inr (by simp)
theorem fits3s {H : AH} {j0 j1 j2 j3 c0 c1 c2 z n m : Nat} {g0 g1 g2 : Option Nat} {cs0 cs1 cs2 ds0 ds1 ds2 xs bs : List AV} {f f' : Nat → List AV} (a0 : H.tr.get j0 = some (.cells c0 g0 cs0)) (a1 : H.tr.get j1 = some (.cells c1 g1 cs1)) (a2 : H.tr.get j2 = some (.cells c2 g2 cs2)) (a3 : seqAt H j3 = some (z, m, f')) (hd : [c0, c1, c2, j3].Pairwise (· ≠ ·)) (hx : fitsA [some j0, some j1, some j2, some j3] bs xs)
    (h0 : fitsA [some j0, some j1, some j2, some j3] ds0 cs0) (h1 : fitsA [some j0, some j1, some j2, some j3] ds1 cs1) (h2 : fitsA [some j0, some j1, some j2, some j3] ds2 cs2) (hn : n ≤ m) (hf : ∀ i, i < n → f i = f' i ∧ nfs (f i) = true) : Fits [some j0, some j1, some j2, some j3] xs H bs [.cells g0 ds0, .cells g1 ds1, .cells g2 ds2, .seq z n f] := by
  refine ⟨hx, ⟨⟨_, _, a0, h0⟩, ⟨_, _, a1, h1⟩, ⟨_, _, a2, h2⟩, .inl ⟨_, _, a3, hn, hf⟩, trivial⟩, ?_⟩
  have e3 := (seq_one a3).1
  have e : ([some j0, some j1, some j2, some j3].map fun o => o.bind H.clsOf) = [c0, c1, c2, j3].map some := by
    simp [AH.clsOf, a0, a1, a2, Blk.cls]
    simpa [AH.clsOf] using e3
  rw [e]
  exact List.pairwise_map.2 (hd.imp fun h => .inr (by simpa using h))
def vT (n : Nat) (y : Nat → Nat) (c i : Int) : List AV := [.data 1 n (by8 y), .top, .ptr 0 0, .top, .ptr 1 0, .ptr 2 0, .sint .i64 c, .sint .i64 i, .top, .top, .top, .top, .top, .top, .top, .top, .top, .top, .top, .top, .top, .top, .top, .top, .top, .top, .top, .top, .top, .top, .top, .top, .top, .top, .top, .top, .top, .top, .top, .top, .top, .top, .top, .top, .top, .top, .top, .top, .top, .top, .top, .top, .top, .top, .top, .top, .top, .top, .top, .top, .top, .top, .top, .top, .top, .top, .top, .top, .top, .top, .top, .top, .top, .top, .top, .top, .top, .top, .top, .top, .top, .top, .top, .top, .top, .top, .top, .top, .top, .top, .top, .top, .top, .top, .top, .top, .top, .top, .top, .top, .top, .top, .top, .top, .top, .top, .top]
theorem vT_fit {n : Nat} {y : Nat → Nat} {j0 j1 j2 : Nat} {r : List (Option Nat)} {c i : Int} {C I a1 a3 a8 a9 a10 a11 a12 a13 a14 a15 a16 a17 a18 a19 a20 a21 a22 a23 a24 a25 a26 a27 a28 a29 a30 a31 a32 a33 a34 a35 a36 a37 a38 a39 a40 a41 a42 a43 a44 a45 a46 a47 a48 a49 a50 a51 a52 a53 a54 a55 a56 a57 a58 a59 a60 a61 a62 a63 a64 a65 a66 a67 a68 a69 a70 a71 a72 a73 a74 a75 a76 a77 a78 a79 a80 a81 a82 a83 a84 a85 a86 a87 a88 a89 a90 a91 a92 a93 a94 a95 a96 a97 a98 a99 a100 a101 a102 a103 a104 a105 a106 : AV} (hC : fitA (some j0 :: some j1 :: some j2 :: r) (.sint .i64 c) C) (hI : fitA (some j0 :: some j1 :: some j2 :: r) (.sint .i64 i) I) : fitsA (some j0 :: some j1 :: some j2 :: r) (vT n y c i) [.data 1 n (by8 y), a1, .ptr j0 0, a3, .ptr j1 0, .ptr j2 0, C, I, a8, a9, a10, a11, a12, a13, a14, a15, a16, a17, a18, a19, a20, a21, a22, a23, a24, a25, a26, a27, a28, a29, a30, a31, a32, a33, a34, a35, a36, a37, a38, a39, a40, a41, a42, a43, a44, a45, a46, a47, a48, a49, a50, a51, a52, a53, a54, a55, a56, a57, a58, a59, a60, a61, a62, a63, a64, a65, a66, a67, a68, a69, a70, a71, a72, a73, a74, a75, a76, a77, a78, a79, a80, a81, a82, a83, a84, a85, a86, a87, a88, a89, a90, a91, a92, a93, a94, a95, a96, a97, a98, a99, a100, a101, a102, a103, a104, a105, a106] :=
  ⟨⟨rfl, rfl⟩, trivial, ⟨rfl, rfl⟩, trivial, ⟨rfl, rfl⟩, ⟨rfl, rfl⟩, hC, hI, trivial, trivial, trivial, trivial, trivial, trivial, trivial, trivial, trivial, trivial, trivial, trivial, trivial, trivial, trivial, trivial, trivial, trivial, trivial, trivial, trivial, trivial, trivial, trivial, trivial, trivial, trivial, trivial, trivial, trivial, trivial, trivial, trivial, trivial, trivial, trivial, trivial, trivial, trivial, trivial, trivial, trivial, trivial, trivial, trivial, trivial, trivial, trivial, trivial, trivial, trivial, trivial, trivial, trivial, trivial, trivial, trivial, trivial, trivial, trivial, trivial, trivial, trivial, trivial, trivial, trivial, trivial, trivial, trivial, trivial, trivial, trivial, trivial, trivial, trivial, trivial, trivial, trivial, trivial, trivial, trivial, trivial, trivial, trivial, trivial, trivial, trivial, trivial, trivial, trivial, trivial, trivial, trivial, trivial, trivial, trivial, trivial, trivial, trivial, trivial⟩
def vG (n : Nat) (y : Nat → Nat) (a : AV) (b : Bool) (row : List AV) : List NewB := [.cells none lpZ, .cells none [.data 1 n (by8 y), a, .bool b], .cells none row]
structure VS (n : Nat) (y : Nat → Nat) where
  a : Int
  c : Int
  i : Int
  k : (n : Int) < 47 + n1 (sh y 46)
def vbT {n : Nat} {y : Nat → Nat} (s : VS n y) : List AV := vT n y s.c s.i
def vbG {n : Nat} {y : Nat → Nat} (s : VS n y) : List NewB := vG n y (.sint .i64 s.a) true (br .top)
def vgT {n : Nat} {y : Nat → Nat} : GS n y ⊕ VS n y → List AV
  | .inl s => vT n y (n1 (sh y 46)) s.i
  | .inr s => vT n y s.c s.i
def vgG {n : Nat} {y : Nat → Nat} : GS n y ⊕ VS n y → List NewB
  | .inl s => [.cells none lpZ, .cells none [.data 1 n (by8 y), .sint .i64 (47 + (s.i : Int)), .bool false], .cells none (gr y s.am (.gsl 3 s.i)), .seq 1 s.i (pk y)]
  | .inr s => vG n y (.sint .i64 s.a) true (br .top)
def vgM {n : Nat} {y : Nat → Nat} : GS n y ⊕ VS n y → Nat
  | .inl s => (n1 (sh y 46) - s.i).toNat + 1
  | .inr _ => 0
theorem rd_fit {ns : List (Option Nat)} {n : Nat} {y : Nat → Nat} {a A : AV} {b : Bool} (h : fitA ns a A) : fitsA ns [.data 1 n (by8 y), a, .bool b] [.data 1 n (by8 y), A, .bool b] := ⟨⟨rfl, rfl⟩, h, ⟨rfl, rfl⟩, trivial⟩
theorem lpZ_fit {ns : List (Option Nat)} : fitsA ns lpZ lpZ := fitsA_self lpZ rfl
theorem brt_fit {ns : List (Option Nat)} {x0 x1 x2 x3 x4 x5 x6 x7 x8 x9 x10 l' : AV} : fitsA ns (br .top) [x0, x1, x2, x3, x4, x5, x6, x7, x8, x9, x10, l'] := ⟨trivial, trivial, trivial, trivial, trivial, trivial, trivial, trivial, trivial, trivial, trivial, trivial, trivial⟩
theorem stY_rng (y : Nat → Nat) (am : Int) : (stY y am).rng := by
  refine ⟨?_, ?_, n8_bd _, n8_bd _, n8_bd _⟩
  · show 0 ≤ n1 (sh y 0) % 256 ∧ n1 (sh y 0) % 256 ≤ 255
    omega
  · show 0 ≤ n1 (sh y 11) % 256 ∧ n1 (sh y 11) % 256 ≤ 255
    omega
/-- what differs from what is put of it is none. -/
theorem no_put {n i : Nat} {y : Nat → Nat} {am : Int} (hA : AmOK (n8 (sh y 22)) am) (my : (stY y am).may i (pkI y)) (e : (i : Int) = n1 (sh y 46)) (hne : ¬ bytesOf (47 + i) (rowT (stY y am) i (pkI y)) = bytesOf n (by8 y)) : ¬ isSt n y := fun h => by
  have e1 : am = n8 (sh y 22) - 1 := am_of hA my.2.2.2.2
  have e2 : n = 47 + i := by have := h.1; omega
  subst e1
  subst e2
  exact hne (bytes_ext fun j _ => row_back e j)
theorem put_len {n i : Nat} {y : Nat → Nat} {am : Int} (h : bytesOf (47 + i) (rowT (stY y am) i (pkI y)) = bytesOf n (by8 y)) : n = 47 + i := by
  have := congrArg List.length h
  rw [bytes_len, bytes_len] at this
  exact this.symm
end Go.Proofs.YtkebdfbdneggkaaGreat
namespace Go.Proofs.YtkebdfbdneggkaaGreat
open Go Go.RowKit Sv
set_option linter.unusedVariables false
set_option linter.unusedSimpArgs false
set_option maxRecDepth 100000
set_option maxHeartbeats 0
theorem rd_call {o lp : Nat → Bool} {n0 : Nat} {R : AV → List NewB → Prop} {t : T} {n : Nat} {y : Nat → Nat} {a A : AV} {b : Bool} {k : Int} {R' : AV → List NewB → Prop} {j0 c0 : Nat} {s0 : Option (Nat × Nat × (Nat → List AV))} (hd : t.hd = .call 33 [.ptr j0 0, .int .i64 k])
    (hr : RunsM Tryz.prog 33 (rdG n y a b) [.ptr 0 0, .int .i64 k] R') (hb : Sv.look t.heap [j0] = [(some (.cells c0 none [.data 1 n (by8 y), A, .bool b]), s0)]) (ha : alone t.heap [j0] = true) (h1 : fitA [some j0] a A) (hk : ∀ x G, R' x G → (t.aftM [j0] x G).ok Tryz.prog o lp n0 R) : t.ok Tryz.prog o lp n0 R :=
  ok_callM1 (o0 := 0) hd hr hb ha ⟨⟨rfl, rfl⟩, ⟨rfl, rfl⟩, trivial⟩ ⟨⟨rfl, rfl⟩, h1, ⟨rfl, rfl⟩, trivial⟩ (by simp) hk
theorem rgetT (n : Nat) (y : Nat → Nat) (hn : n ≤ 5000) : Runs Tryz.prog 11 [.data 1 n (by8 y)] fun x G => (isSt n y ∧ x = .tuple [.agg ((stY y (n8 (sh y 22) - 1)).row (.gsl 0 (n1 (sh y 46)).toNat)), .int .i64 0] ∧ G = [.seq 1 (n1 (sh y 46)).toNat (pk y)]) ∨ (¬ isSt n y ∧ x = .tuple [.agg lpZ, .int .i64 5] ∧ G = []) := by
  have b22 := n8_bd (sh y 22)
  have hv2 : n8 (sh y 22) = 0 → IntKind.i64.wrap (IntKind.u64.wrap (n8 (sh y 22) - 1)) = -1 := fun h => by
    rw [h]
    decide
  have hv1 : n8 (sh y 22) = 0 → IntKind.u64.wrap (n8 (sh y 22) - 1) = 18446744073709551615 := fun h => by
    rw [h]
    decide
  have hv3 : 9223372036854775809 ≤ n8 (sh y 22) → IntKind.i64.wrap (n8 (sh y 22) - 1) = n8 (sh y 22) - 18446744073709551617 := fun h => by
    rw [IntKind.wrap_i64]
    omega
  have b46 := n1_bd (sh y 46)
  have b1 := n2_bd (sh y 1)
  have b3 := n2_bd (sh y 3)
  have b5 := n2_bd (sh y 5)
  have b7 := n4_bd (sh y 7)
  have b20 := n2_bd (sh y 20)
  refine runs_treeF plain mixed (fun g => Nat.beq g 9 || Nat.beq g 33) (fun _ => true) 60 ?_
  refine ok_sk (.stop [1]) (S := .stop (Hd.call 33 [.ptr 1 0, .int .i64 1]) [1] ([bk 1 [.data 1 n (by8 y), .int .i64 0, .bool false]])) (by kernel_rfl) ?_
  refine hold_stop (fun hd hb => ?_)
  refine rd_call hd (rk1 n y _ hn ?_) hb (by kernel_rfl) fit_i ?_
  focus omega
  rintro x G (⟨h, rfl, rfl⟩ | ⟨h, rfl, rfl⟩)
  ·
   refine ok_sk (.stop [1]) (S := .stop (Hd.call 33 [.ptr 1 0, .int .i64 2]) [1] ([bk 1 [.data 1 n (by8 y), .sint .i64 (1 : Int), .bool false]])) (by kernel_rfl) ?_
   refine hold_stop (fun hd hb => ?_)
   refine rd_call hd (rk2 n y _ hn ?_) hb (by kernel_rfl) fit_n ?_
   focus omega
   rintro x G (⟨h, rfl, rfl⟩ | ⟨h, rfl, rfl⟩)
   ·
    refine ok_sk (.l (.l (.stop [1]))) (S := .left (decide ((-9223372036854775808 : Int) ≤ n2 (sh y 1) ∧ n2 (sh y 1) ≤ 9223372036854775807)) (.left (decide ((-9223372036854775808 : Int) ≤ n2 (sh y 1) - 1 ∧ n2 (sh y 1) - 1 ≤ 9223372036854775807)) (.stop (Hd.call 33 [.ptr 1 0, .int .i64 2]) [1] ([bk 1 [.data 1 n (by8 y), .sint .i64 (3 : Int), .bool false]])))) (by kernel_rfl) ?_
    refine hl (bc fun h2 => by omega) ?_
    refine hl (bc fun h2 => by omega) ?_
    refine hold_stop (fun hd hb => ?_)
    refine rd_call hd (rk2 n y _ hn ?_) hb (by kernel_rfl) fit_n ?_
    focus omega
    rintro x G (⟨h, rfl, rfl⟩ | ⟨h, rfl, rfl⟩)
    ·
     refine ok_sk (.l (.l (.stop [1]))) (S := .left (decide ((-9223372036854775808 : Int) ≤ n2 (sh y 3) ∧ n2 (sh y 3) ≤ 9223372036854775807)) (.left (decide ((-9223372036854775808 : Int) ≤ n2 (sh y 3) - 1 ∧ n2 (sh y 3) - 1 ≤ 9223372036854775807)) (.stop (Hd.call 33 [.ptr 1 0, .int .i64 2]) [1] ([bk 1 [.data 1 n (by8 y), .sint .i64 (5 : Int), .bool false]])))) (by kernel_rfl) ?_
     refine hl (bc fun h3 => by omega) ?_
     refine hl (bc fun h3 => by omega) ?_
     refine hold_stop (fun hd hb => ?_)
     refine rd_call hd (rk2 n y _ hn ?_) hb (by kernel_rfl) fit_n ?_
     focus omega
     rintro x G (⟨h, rfl, rfl⟩ | ⟨h, rfl, rfl⟩)
     ·
      refine ok_sk (.l (.l (.stop [1]))) (S := .left (decide ((-9223372036854775808 : Int) ≤ n2 (sh y 5) ∧ n2 (sh y 5) ≤ 9223372036854775807)) (.left (decide ((-9223372036854775808 : Int) ≤ n2 (sh y 5) - 1 ∧ n2 (sh y 5) - 1 ≤ 9223372036854775807)) (.stop (Hd.call 33 [.ptr 1 0, .int .i64 4]) [1] ([bk 1 [.data 1 n (by8 y), .sint .i64 (7 : Int), .bool false]])))) (by kernel_rfl) ?_
      refine hl (bc fun h4 => by omega) ?_
      refine hl (bc fun h4 => by omega) ?_
      refine hold_stop (fun hd hb => ?_)
      refine rd_call hd (rk4 n y _ hn ?_) hb (by kernel_rfl) fit_n ?_
      focus omega
      rintro x G (⟨h, rfl, rfl⟩ | ⟨h, rfl, rfl⟩)
      ·
       refine ok_sk (.l (.l (.stop [1]))) (S := .left (decide ((-9223372036854775808 : Int) ≤ n4 (sh y 7) ∧ n4 (sh y 7) ≤ 9223372036854775807)) (.left (decide ((-9223372036854775808 : Int) ≤ n4 (sh y 7) - 1 ∧ n4 (sh y 7) - 1 ≤ 9223372036854775807)) (.stop (Hd.call 33 [.ptr 1 0, .int .i64 1]) [1] ([bk 1 [.data 1 n (by8 y), .sint .i64 (11 : Int), .bool false]])))) (by kernel_rfl) ?_
       refine hl (bc fun h5 => by omega) ?_
       refine hl (bc fun h5 => by omega) ?_
       refine hold_stop (fun hd hb => ?_)
       refine rd_call hd (rk1 n y _ hn ?_) hb (by kernel_rfl) fit_n ?_
       focus omega
       rintro x G (⟨h, rfl, rfl⟩ | ⟨h, rfl, rfl⟩)
       ·
        refine ok_sk (.stop [1]) (S := .stop (Hd.call 33 [.ptr 1 0, .int .i64 8]) [1] ([bk 1 [.data 1 n (by8 y), .sint .i64 (12 : Int), .bool false]])) (by kernel_rfl) ?_
        refine hold_stop (fun hd hb => ?_)
        refine rd_call hd (rk8 n y _ hn ?_) hb (by kernel_rfl) fit_n ?_
        focus omega
        rintro x G (⟨h, rfl, rfl⟩ | ⟨h, rfl, rfl⟩)
        ·
         refine ok_sk (.stop [1]) (S := .stop (Hd.call 33 [.ptr 1 0, .int .i64 2]) [1] ([bk 1 [.data 1 n (by8 y), .sint .i64 (20 : Int), .bool false]])) (by kernel_rfl) ?_
         refine hold_stop (fun hd hb => ?_)
         refine rd_call hd (rk2 n y _ hn ?_) hb (by kernel_rfl) fit_n ?_
         focus omega
         rintro x G (⟨h, rfl, rfl⟩ | ⟨h, rfl, rfl⟩)
         ·
          refine ok_sk (.l (.l (.stop [1]))) (S := .left (decide ((-9223372036854775808 : Int) ≤ n2 (sh y 20) ∧ n2 (sh y 20) ≤ 9223372036854775807)) (.left (decide ((-9223372036854775808 : Int) ≤ n2 (sh y 20) - 1 ∧ n2 (sh y 20) - 1 ≤ 9223372036854775807)) (.stop (Hd.call 33 [.ptr 1 0, .int .i64 8]) [1] ([bk 1 [.data 1 n (by8 y), .sint .i64 (22 : Int), .bool false]])))) (by kernel_rfl) ?_
          refine hl (bc fun h8 => by omega) ?_
          refine hl (bc fun h8 => by omega) ?_
          refine hold_stop (fun hd hb => ?_)
          refine rd_call hd (rk8 n y _ hn ?_) hb (by kernel_rfl) fit_n ?_
          focus omega
          rintro x G (⟨h, rfl, rfl⟩ | ⟨h, rfl, rfl⟩)
          ·
           refine ok_sk (.both (.both (.stop [1]) (.stop [1])) (.r (.stop [1]))) (S := .fork (decide (0 ≤ n8 (sh y 22) - 1 ∧ n8 (sh y 22) - 1 ≤ 18446744073709551615)) (.fork (decide ((-9223372036854775808 : Int) ≤ n8 (sh y 22) - 1 ∧ n8 (sh y 22) - 1 ≤ 9223372036854775807)) (.stop (Hd.call 33 [.ptr 1 0, .int .i64 8]) [1] ([bk 1 [.data 1 n (by8 y), .sint .i64 (30 : Int), .bool false]])) (.stop (Hd.call 33 [.ptr 1 0, .int .i64 8]) [1] ([bk 1 [.data 1 n (by8 y), .sint .i64 (30 : Int), .bool false]]))) (.right (decide ((-9223372036854775808 : Int) ≤ IntKind.u64.wrap (n8 (sh y 22) - 1) ∧ IntKind.u64.wrap (n8 (sh y 22) - 1) ≤ 9223372036854775807)) (.stop (Hd.call 33 [.ptr 1 0, .int .i64 8]) [1] ([bk 1 [.data 1 n (by8 y), .sint .i64 (30 : Int), .bool false]])))) (by kernel_rfl) ?_
           refine hold_forkD (fun h9 => ?_) (fun h9 => ?_)
           ·
            refine hold_forkD (fun h10 => ?_) (fun h10 => ?_)
            ·
             refine hold_stop (fun hd hb => ?_)
             refine rd_call hd (rk8 n y _ hn ?_) hb (by kernel_rfl) fit_n ?_
             focus omega
             rintro x G (⟨h, rfl, rfl⟩ | ⟨h, rfl, rfl⟩)
             ·
              refine ok_sk (.stop [1]) (S := .stop (Hd.call 33 [.ptr 1 0, .int .i64 8]) [1] ([bk 1 [.data 1 n (by8 y), .sint .i64 (38 : Int), .bool false]])) (by kernel_rfl) ?_
              refine hold_stop (fun hd hb => ?_)
              refine rd_call hd (rk8 n y _ hn ?_) hb (by kernel_rfl) fit_n ?_
              focus omega
              rintro x G (⟨h, rfl, rfl⟩ | ⟨h, rfl, rfl⟩)
              ·
               refine ok_sk (.stop [1]) (S := .stop (Hd.call 33 [.ptr 1 0, .int .i64 1]) [1] ([bk 1 [.data 1 n (by8 y), .sint .i64 (46 : Int), .bool false]])) (by kernel_rfl) ?_
               refine hold_stop (fun hd hb => ?_)
               refine rd_call hd (rk1 n y _ hn ?_) hb (by kernel_rfl) fit_n ?_
               focus omega
               rintro x G (⟨h, rfl, rfl⟩ | ⟨h, rfl, rfl⟩)
               ·
                refine ok_sk (.l (.stop [0, 1, 3])) (S := .left (decide ((-9223372036854775808 : Int) ≤ n1 (sh y 46) ∧ n1 (sh y 46) ≤ 9223372036854775807)) (.stop (Hd.loop 42 [.data 1 n (by8 y), .tuple [], .ptr 0 0, .int .i64 0, .ptr 1 0, .ptr 3 0, .sint .i64 (n1 (sh y 46)), .int .i64 0, .data 1 n (by8 y), .agg [.data 1 n (by8 y), .int .i64 0, .bool false], .ptr 1 0, .ptr 1 0, .sint .u64 (n1 (sh y 0)), .sint .u8 (n1 (sh y 0) % 256), .agg [.sint .u8 (n1 (sh y 0) % 256), .int .i64 0, .int .u8 0, .int .u64 0, .int .i64 0, .int .i64 0, .int .u64 0, .int .u64 0, .int .i64 0, .int .i64 0, .int .i64 0, .nilSlice], .ptr 1 0, .sint .u64 (n2 (sh y 1)), .sint .i64 (n2 (sh y 1)), m2 y 1, .ptr 3 1, .ptr 1 0, .sint .u64 (n2 (sh y 3)), .sint .i64 (n2 (sh y 3)), m2 y 3, .ptr 3 9, .ptr 1 0, .sint .u64 (n2 (sh y 5)), .sint .i64 (n2 (sh y 5)), m2 y 5, .ptr 3 8, .ptr 1 0, .sint .u64 (n4 (sh y 7)), .sint .i64 (n4 (sh y 7)), m4 y 7, .ptr 3 10, .ptr 1 0, .sint .u64 (n1 (sh y 11)), .sint .u8 (n1 (sh y 11) % 256), .ptr 3 2, .ptr 3 2, .ptr 1 0, q8 y 12, .ptr 3 2, .ptr 3 3, .ptr 1 0, .sint .u64 (n2 (sh y 20)), .sint .i64 (n2 (sh y 20)), m2 y 20, .ptr 3 2, .ptr 3 4, .ptr 1 0, q8 y 22, .sint .u64 (n8 (sh y 22) - 1), .sint .i64 (n8 (sh y 22) - 1), .ptr 3 2, .ptr 3 5, .ptr 1 0, q8 y 30, .ptr 3 2, .ptr 3 6, .ptr 1 0, q8 y 38, .ptr 3 2, .ptr 3 7, .ptr 1 0, .sint .u64 (n1 (sh y 46)), .sint .i64 (n1 (sh y 46)), .tuple [], .tuple [], .tuple [], .tuple [], .tuple [], .tuple [], .tuple [], .tuple [], .tuple [], .tuple [], .tuple [], .tuple [], .tuple [], .tuple [], .tuple [], .tuple [], .tuple [], .tuple [], .tuple [], .tuple [], .tuple [], .tuple [], .tuple [], .tuple [], .tuple [], .tuple [], .tuple [], .tuple [], .tuple [], .tuple [], .tuple [], .tuple [], .tuple [], .tuple [], .tuple [], .tuple [], .tuple [], .tuple [], .tuple [], .tuple []]) [0, 1, 3] ([bk 0 lpZ, bk 1 [.data 1 n (by8 y), .sint .i64 (47 : Int), .bool false], bk 3 [.sint .u8 (n1 (sh y 0) % 256), m2 y 1, .sint .u8 (n1 (sh y 11) % 256), q8 y 12, m2 y 20, .sint .i64 (n8 (sh y 22) - 1), q8 y 30, q8 y 38, m2 y 5, m2 y 3, m4 y 7, .nilSlice]]))) (by kernel_rfl) ?_
                refine hl (bc fun h14 => by omega) ?_
                refine hold_stop (fun hd hb => ?_)
                refine ok_loop hd (X := GS n y ⊕ VS n y) vgT vgG vgM [some 0, some 1, some 3, none] (.inl ⟨0, n8 (sh y 22) - 1, ?_, ?_⟩) (fits3n (look_get hb 0 rfl rfl).1 (look_get hb 1 rfl rfl).1 (look_get hb 2 rfl rfl).1 (by decide) (vT_fit fit_n fit_i) lpZ_fit (rd_fit ⟨rfl, rfl⟩) (gr_fit fit_nil rfl)) ?_
                focus omega
                focus exact ⟨fun h => by omega, fun h => by omega⟩
                rintro (⟨i, am, k, hA⟩ | ⟨a0, c, i, k⟩)
                all_goals (have bi := n1_bd (sh y (47 + (i : Int)).toNat))
                ·
                 refine ok_sk (.both (.stop [1]) (.r (.l (.stop [3])))) (S := .fork (decide ((↑i : Int) < n1 (sh y 46))) (.stop (Hd.call 33 [.ptr 1 0, .int .i64 1]) [1] ([bk 1 [.data 1 n (by8 y), .sint .i64 ((47 : Int) + (↑i : Int)), .bool false]])) (.right (decide ((↑n : Int) = 0)) (.left (@decide (AllBytes n (by8 y)) pd) (.stop (Hd.call 9 [.agg [.sint .u8 (n1 (sh y 0) % 256), .sint .i64 (n2 (sh y 1) - 1), .sint .u8 (n1 (sh y 11) % 256), .sint .u64 (n8 (sh y 12)), .sint .i64 (n2 (sh y 20) - 1), .sint .i64 am, .sint .u64 (n8 (sh y 30)), .sint .u64 (n8 (sh y 38)), .sint .i64 (n2 (sh y 5) - 1), .sint .i64 (n2 (sh y 3) - 1), .sint .i64 (n4 (sh y 7) - 1), .gsl 3 i]]) [3] ([(some (Blk.seq 3 1 i (pk y)), some (1, i, pk y))]))))) (by kernel_rfl) ?_
                 refine hold_forkD (fun h15 => ?_) (fun h15 => ?_)
                 ·
                  refine hold_stop (fun hd hb => ?_)
                  refine rd_call hd (rk1 n y _ hn ?_) hb (by kernel_rfl) fit_n ?_
                  focus omega
                  rintro x G (⟨h, rfl, rfl⟩ | ⟨h, rfl, rfl⟩)
                  ·
                   refine ok_sk (.l (.l (.l (.l (.l (.l (.l (.l (.l (.l (.l (.l (.stop [0, 1, 2, 3, 5, 6]))))))))))))) (S := .left (decide (i = i)) (.left (decide ((-9223372036854775808 : Int) ≤ n1 (sh y ((47 : Int) + (↑i : Int)).toNat) ∧ n1 (sh y ((47 : Int) + (↑i : Int)).toNat) ≤ 9223372036854775807)) (.left (decide ((-9223372036854775808 : Int) ≤ n1 (sh y ((47 : Int) + (↑i : Int)).toNat) - 1 ∧ n1 (sh y ((47 : Int) + (↑i : Int)).toNat) - 1 ≤ 9223372036854775807)) (.left (decide (n1 (sh y ((47 : Int) + (↑i : Int)).toNat) - 1 = n1 (sh y ((47 : Int) + (↑i : Int)).toNat) - 1)) (.left (decide ((-9223372036854775808 : Int) ≤ n1 (sh y ((47 : Int) + (↑i : Int)).toNat) - 1 ∧ n1 (sh y ((47 : Int) + (↑i : Int)).toNat) - 1 ≤ 9223372036854775807)) (.left (decide (n1 (sh y ((47 : Int) + (↑i : Int)).toNat) - 1 = n1 (sh y ((47 : Int) + (↑i : Int)).toNat) - 1)) (.left (decide ((-9223372036854775808 : Int) ≤ n1 (sh y ((47 : Int) + (↑i : Int)).toNat) ∧ n1 (sh y ((47 : Int) + (↑i : Int)).toNat) ≤ 9223372036854775807)) (.left (decide (n1 (sh y ((47 : Int) + (↑i : Int)).toNat) = n1 (sh y ((47 : Int) + (↑i : Int)).toNat))) (.left (decide (i = i)) (.left (@decide (1 < 65536 ∧ RowsOK 1 1 fun (i_1 : Nat) => List.take 1 (List.drop (i_1 * 1) [.sint .i64 (n1 (sh y ((47 : Int) + (↑i : Int)).toNat) - 1)])) pd) (.left (decide (i ≤ i ∧ i < 65536)) (.left (decide ((-9223372036854775808 : Int) ≤ (↑i : Int) + 1 ∧ (↑i : Int) + 1 ≤ 9223372036854775807)) (.stop (Hd.again (again' vgT vgG vgM (Sum.inl { i := i, am := am, k := k, ha := hA })) [.data 1 n (by8 y), .top, .ptr 0 0, .top, .ptr 1 0, .ptr 2 0, .sint .i64 (n1 (sh y 46)), .sint .i64 ((↑i : Int) + 1), .top, .top, .top, .top, .top, .top, .top, .top, .top, .top, .top, .top, .top, .top, .top, .top, .top, .top, .top, .top, .top, .top, .top, .top, .top, .top, .top, .top, .top, .top, .top, .top, .top, .top, .top, .top, .top, .top, .top, .top, .top, .top, .top, .top, .top, .top, .top, .top, .top, .top, .top, .top, .top, .top, .top, .top, .top, .top, .top, .sint .i64 (↑i : Int), .sint .i64 (n1 (sh y 46)), .bool true, .bool true, .ptr 1 0, .ptr 1 0, .ptr 1 2, .bool false, .bool true, .bool true, .sint .i64 (↑i : Int), .sint .i64 ((↑i : Int) + 1), .ptr 2 11, .gsl 3 i, .ptr 1 0, .sint .u64 (n1 (sh y ((47 : Int) + (↑i : Int)).toNat)), .sint .i64 (n1 (sh y ((47 : Int) + (↑i : Int)).toNat)), .sint .i64 (n1 (sh y ((47 : Int) + (↑i : Int)).toNat) - 1), .slice 5 0 1 1 true, .gsl 6 (i + 1), .ptr 2 11, .top, .top, .top, .top, .top, .top, .top, .top, .top, .top, .top, .top, .top, .top, .top, .top, .top, .top, .top]) [0, 1, 2, 3, 5, 6] ([bk 0 lpZ, bk 1 [.data 1 n (by8 y), .sint .i64 ((47 : Int) + (↑i : Int) + 1), .bool false], bk 2 [.sint .u8 (n1 (sh y 0) % 256), m2 y 1, .sint .u8 (n1 (sh y 11) % 256), q8 y 12, m2 y 20, .sint .i64 am, q8 y 30, q8 y 38, m2 y 5, m2 y 3, m4 y 7, .gsl 6 (i + 1)], (some Blk.dead, none), bk 5 [.sint .i64 (n1 (sh y ((47 : Int) + (↑i : Int)).toNat) - 1)], (some (Blk.seq 6 1 (i + 1) (glue i (pk y) fun (i_1 : Nat) => List.take 1 (List.drop (i_1 * 1) [.sint .i64 (n1 (sh y ((47 : Int) + (↑i : Int)).toNat) - 1)]))), some (1, i + 1, glue i (pk y) fun (i_1 : Nat) => List.take 1 (List.drop (i_1 * 1) [.sint .i64 (n1 (sh y ((47 : Int) + (↑i : Int)).toNat) - 1)])))])))))))))))))) (by kernel_rfl) ?_
                   refine hl (bc fun h17 => by omega) ?_
                   refine hl (bc fun h17 => by omega) ?_
                   refine hl (bc fun h17 => by omega) ?_
                   refine hl (bc fun h17 => by omega) ?_
                   refine hl (bc fun h17 => by omega) ?_
                   refine hl (bc fun h17 => by omega) ?_
                   refine hl (bc fun h17 => by omega) ?_
                   refine hl (bc fun h17 => by omega) ?_
                   refine hl (bc fun h17 => by omega) ?_
                   refine hl (bc fun h17 => by exact h17 ⟨by omega, fun j hj => by obtain rfl : j = 0 := (by omega); exact ⟨rfl, rfl⟩⟩) ?_
                   refine hl (bc fun h17 => by omega) ?_
                   refine hl (bc fun h17 => by omega) ?_
                   refine hold_stop (fun hd hb => ?_)
                   refine ok_again hd [some 0, some 1, some 2, some 6] (.inl ⟨i + 1, am, ?_, hA⟩) ?_ (fits3s (look_get hb 0 rfl rfl).1 (look_get hb 1 rfl rfl).1 (look_get hb 2 rfl rfl).1 (look_get hb 5 rfl rfl).2 (by decide) (vT_fit fit_n ⟨rfl, rfl⟩) lpZ_fit (rd_fit ⟨rfl, ?_⟩) (gr_fit (fit_g rfl) rfl) (Nat.le_refl _) (pk_glue ?_))
                   · omega
                   · show (n1 (sh y 46) - ((i + 1 : Nat) : Int)).toNat + 1 < (n1 (sh y 46) - (i : Int)).toNat + 1
                     omega
                   · show 47 + ((i + 1 : Nat) : Int) = 47 + (i : Int) + 1
                     omega
                   · show [AV.sint .i64 (n1 (sh y (47 + (i : Int)).toNat) - 1)] = pk y i
                     rw [show (47 + (i : Int)).toNat = 47 + i by omega]
                     rfl
                  refine ok_sk (.l (.l (.l (.l (.l (.stop [0, 1, 2, 3, 5, 6])))))) (S := .left (decide (i = i)) (.left (decide (i = i)) (.left (@decide (1 < 65536 ∧ RowsOK 1 1 fun (i : Nat) => List.take 1 (List.drop (i * 1) [.int .i64 (Int.negSucc 0)])) pd) (.left (decide (i ≤ i ∧ i < 65536)) (.left (decide ((-9223372036854775808 : Int) ≤ (↑i : Int) + 1 ∧ (↑i : Int) + 1 ≤ 9223372036854775807)) (.stop (Hd.again (again' vgT vgG vgM (Sum.inl { i := i, am := am, k := k, ha := hA })) [.data 1 n (by8 y), .top, .ptr 0 0, .top, .ptr 1 0, .ptr 2 0, .sint .i64 (n1 (sh y 46)), .sint .i64 ((↑i : Int) + 1), .top, .top, .top, .top, .top, .top, .top, .top, .top, .top, .top, .top, .top, .top, .top, .top, .top, .top, .top, .top, .top, .top, .top, .top, .top, .top, .top, .top, .top, .top, .top, .top, .top, .top, .top, .top, .top, .top, .top, .top, .top, .top, .top, .top, .top, .top, .top, .top, .top, .top, .top, .top, .top, .top, .top, .top, .top, .top, .top, .sint .i64 (↑i : Int), .sint .i64 (n1 (sh y 46)), .bool true, .bool true, .ptr 1 0, .ptr 1 0, .ptr 1 2, .bool false, .bool true, .bool true, .sint .i64 (↑i : Int), .sint .i64 ((↑i : Int) + 1), .ptr 2 11, .gsl 3 i, .ptr 1 0, .int .u64 0, .int .i64 0, .int .i64 (Int.negSucc 0), .slice 5 0 1 1 true, .gsl 6 (i + 1), .ptr 2 11, .top, .top, .top, .top, .top, .top, .top, .top, .top, .top, .top, .top, .top, .top, .top, .top, .top, .top, .top]) [0, 1, 2, 3, 5, 6] ([bk 0 lpZ, bk 1 [.data 1 n (by8 y), .sint .i64 ((47 : Int) + (↑i : Int)), .bool true], bk 2 [.sint .u8 (n1 (sh y 0) % 256), m2 y 1, .sint .u8 (n1 (sh y 11) % 256), q8 y 12, m2 y 20, .sint .i64 am, q8 y 30, q8 y 38, m2 y 5, m2 y 3, m4 y 7, .gsl 6 (i + 1)], (some Blk.dead, none), bk 5 [.int .i64 (Int.negSucc 0)], (some (Blk.seq 6 1 (i + 1) (glue i (pk y) fun (i : Nat) => List.take 1 (List.drop (i * 1) [.int .i64 (Int.negSucc 0)]))), some (1, i + 1, glue i (pk y) fun (i : Nat) => List.take 1 (List.drop (i * 1) [.int .i64 (Int.negSucc 0)])))]))))))) (by kernel_rfl) ?_
                  refine hl (bc fun h17 => by omega) ?_
                  refine hl (bc fun h17 => by omega) ?_
                  refine hl (bc fun h17 => by exact h17 ⟨by omega, fun j hj => by obtain rfl : j = 0 := (by omega); exact ⟨rfl, rfl⟩⟩) ?_
                  refine hl (bc fun h17 => by omega) ?_
                  refine hl (bc fun h17 => by omega) ?_
                  refine hold_stop (fun hd hb => ?_)
                  refine ok_again hd [some 0, some 1, some 2] (.inr ⟨47 + (i : Int), n1 (sh y 46), (i : Int) + 1, ?_⟩) ?_ (fits3t (look_get hb 0 rfl rfl).1 (look_get hb 1 rfl rfl).1 (look_get hb 2 rfl rfl).1 (by decide) (vT_fit fit_n fit_n) lpZ_fit (rd_fit fit_n) brt_fit)
                  · omega
                  · show 0 < (n1 (sh y 46) - (i : Int)).toNat + 1
                    omega
                 refine hzr (fun h16 => by omega) ?_
                 refine hl (bc fun h16 => by exact h16 (all_by8 _ _)) ?_
                 refine hold_stop (fun hd hb => ?_)
                 refine ok_call hd (rputT (stY y am) i (pkI y) (by omega) (stY_rng y am)) (st_view (s := stY y am) (look_get hb 0 rfl rfl).2 (Nat.le_refl _) (fun j hj => rfl)) ?_
                 rintro x G (⟨rfl, rfl, my⟩ | ⟨my, rfl, rfl⟩) <;> first | refine ⟨rfl, fun g hg => (by rcases List.mem_singleton.1 hg with rfl; exact fun _ _ => rfl), ?_⟩ | refine ⟨rfl, fun g hg => (by cases hg), ?_⟩
                 ·
                  refine ok_sk (.l (.l (.l (.r (.stop []))))) (S := .left (@decide (AllBytes n (by8 y)) pd) (.left (decide (bytesOf n (by8 y) = bytesOf n (by8 y))) (.left (@decide (1 = 1 ∧ n = n ∧ by8 y = by8 y) pd) (.right (decide ([] = bytesOf n (by8 y))) (.stop (Hd.leaf (.tuple [.agg lpZ, .int .i64 5])) [] ([])))))) (by kernel_rfl) ?_
                  refine hl (bc fun h17 => by exact h17 (all_by8 _ _)) ?_
                  refine hl (bc fun h17 => by exact h17 rfl) ?_
                  refine hl (bc fun h17 => by exact h17 ⟨rfl, rfl, rfl⟩) ?_
                  refine hzr (fun h17 => by (have h0 := congrArg List.length h17; rw [bytes_len] at h0; simp at h0; omega)) ?_
                  refine hold_stop (fun hd hb => ?_)
                  exact ok_leaf0 hd rfl (.inr ⟨no_st hA my (by omega), rfl, rfl⟩)
                 refine ok_sk (.l (.l (.l (.l (.both (.stop [3]) (.stop [])))))) (S := .left (@decide (AllBytes n (by8 y)) pd) (.left (decide (bytesOf n (by8 y) = bytesOf n (by8 y))) (.left (@decide (1 = 1 ∧ n = n ∧ by8 y = by8 y) pd) (.left (@decide (47 + i ≤ 47 + i ∧ AllBytes (47 + i) (rowT (stY y am) i (pkI y))) pd) (.fork (decide (bytesOf (47 + i) (rowT (stY y am) i (pkI y)) = bytesOf n (by8 y))) (.stop (Hd.leaf (.tuple [.agg [.sint .u8 (n1 (sh y 0) % 256), .sint .i64 (n2 (sh y 1) - 1), .sint .u8 (n1 (sh y 11) % 256), .sint .u64 (n8 (sh y 12)), .sint .i64 (n2 (sh y 20) - 1), .sint .i64 am, .sint .u64 (n8 (sh y 30)), .sint .u64 (n8 (sh y 38)), .sint .i64 (n2 (sh y 5) - 1), .sint .i64 (n2 (sh y 3) - 1), .sint .i64 (n4 (sh y 7) - 1), .gsl 3 i], .int .i64 0])) [3] ([(some (Blk.seq 3 1 i (pk y)), some (1, i, pk y))])) (.stop (Hd.leaf (.tuple [.agg lpZ, .int .i64 5])) [] ([]))))))) (by kernel_rfl) ?_
                 refine hl (bc fun h17 => by exact h17 (all_by8 _ _)) ?_
                 refine hl (bc fun h17 => by exact h17 rfl) ?_
                 refine hl (bc fun h17 => by exact h17 ⟨rfl, rfl, rfl⟩) ?_
                 refine hl (bc fun h17 => by exact h17 ⟨Nat.le_refl _, all_rowT _ _ _ _⟩) ?_
                 refine hold_forkD (fun h17 => ?_) (fun h17 => ?_)
                 ·
                  refine hold_stop (fun hd hb => ?_)
                  obtain ⟨e1, e2, hs⟩ := is_st (n := n) hA my (by omega) (put_len (am := am) (by assumption))
                  subst e1
                  subst e2
                  exact ok_leafG hd hb (y := .tuple [.agg ((stY y (n8 (sh y 22) - 1)).row (.gsl 0 (n1 (sh y 46)).toNat)), .int .i64 0]) (by simp [StI.row, stY, fitA, fitsA, nf]) (Nat.le_refl _) (fun j hj => ⟨rfl, rfl⟩) (.inl ⟨hs, rfl, rfl⟩)
                 refine hold_stop (fun hd hb => ?_)
                 exact ok_leaf0 hd rfl (.inr ⟨no_put hA my (by omega) (by assumption), rfl, rfl⟩)
                refine ok_sk (.both (.stop []) (.stop [])) (S := .fork (decide (i < c)) (.stop (Hd.leaf (.tuple [.agg lpZ, .int .i64 5])) [] ([])) (.stop (Hd.leaf (.tuple [.agg lpZ, .int .i64 5])) [] ([]))) (by kernel_rfl) ?_
                refine hold_forkD (fun h15 => ?_) (fun h15 => ?_)
                ·
                 refine hold_stop (fun hd hb => ?_)
                 exact ok_leaf0 hd rfl (.inr ⟨fun h => by have := h.1; omega, rfl, rfl⟩)
                refine hold_stop (fun hd hb => ?_)
                exact ok_leaf0 hd rfl (.inr ⟨fun h => by have := h.1; omega, rfl, rfl⟩)
               refine ok_sk (.stop [0, 1, 3]) (S := .stop (Hd.loop 42 [.data 1 n (by8 y), .tuple [], .ptr 0 0, .int .i64 0, .ptr 1 0, .ptr 3 0, .int .i64 0, .int .i64 0, .data 1 n (by8 y), .agg [.data 1 n (by8 y), .int .i64 0, .bool false], .ptr 1 0, .ptr 1 0, .sint .u64 (n1 (sh y 0)), .sint .u8 (n1 (sh y 0) % 256), .agg [.sint .u8 (n1 (sh y 0) % 256), .int .i64 0, .int .u8 0, .int .u64 0, .int .i64 0, .int .i64 0, .int .u64 0, .int .u64 0, .int .i64 0, .int .i64 0, .int .i64 0, .nilSlice], .ptr 1 0, .sint .u64 (n2 (sh y 1)), .sint .i64 (n2 (sh y 1)), m2 y 1, .ptr 3 1, .ptr 1 0, .sint .u64 (n2 (sh y 3)), .sint .i64 (n2 (sh y 3)), m2 y 3, .ptr 3 9, .ptr 1 0, .sint .u64 (n2 (sh y 5)), .sint .i64 (n2 (sh y 5)), m2 y 5, .ptr 3 8, .ptr 1 0, .sint .u64 (n4 (sh y 7)), .sint .i64 (n4 (sh y 7)), m4 y 7, .ptr 3 10, .ptr 1 0, .sint .u64 (n1 (sh y 11)), .sint .u8 (n1 (sh y 11) % 256), .ptr 3 2, .ptr 3 2, .ptr 1 0, q8 y 12, .ptr 3 2, .ptr 3 3, .ptr 1 0, .sint .u64 (n2 (sh y 20)), .sint .i64 (n2 (sh y 20)), m2 y 20, .ptr 3 2, .ptr 3 4, .ptr 1 0, q8 y 22, .sint .u64 (n8 (sh y 22) - 1), .sint .i64 (n8 (sh y 22) - 1), .ptr 3 2, .ptr 3 5, .ptr 1 0, q8 y 30, .ptr 3 2, .ptr 3 6, .ptr 1 0, q8 y 38, .ptr 3 2, .ptr 3 7, .ptr 1 0, .int .u64 0, .int .i64 0, .tuple [], .tuple [], .tuple [], .tuple [], .tuple [], .tuple [], .tuple [], .tuple [], .tuple [], .tuple [], .tuple [], .tuple [], .tuple [], .tuple [], .tuple [], .tuple [], .tuple [], .tuple [], .tuple [], .tuple [], .tuple [], .tuple [], .tuple [], .tuple [], .tuple [], .tuple [], .tuple [], .tuple [], .tuple [], .tuple [], .tuple [], .tuple [], .tuple [], .tuple [], .tuple [], .tuple [], .tuple [], .tuple [], .tuple [], .tuple []]) [0, 1, 3] ([bk 0 lpZ, bk 1 [.data 1 n (by8 y), .sint .i64 (46 : Int), .bool true], bk 3 [.sint .u8 (n1 (sh y 0) % 256), m2 y 1, .sint .u8 (n1 (sh y 11) % 256), q8 y 12, m2 y 20, .sint .i64 (n8 (sh y 22) - 1), q8 y 30, q8 y 38, m2 y 5, m2 y 3, m4 y 7, .nilSlice]])) (by kernel_rfl) ?_
               refine hold_stop (fun hd hb => ?_)
               refine ok_loop hd (X := VS n y) vbT vbG (fun _ => 0) [some 0, some 1, some 3] ⟨_, 0, 0, ?_⟩ (fits3t (look_get hb 0 rfl rfl).1 (look_get hb 1 rfl rfl).1 (look_get hb 2 rfl rfl).1 (by decide) (vT_fit fit_i fit_i) lpZ_fit (rd_fit fit_n) brt_fit) ?_
               focus omega
               rintro ⟨a0, c, i, k⟩
               refine ok_sk (.both (.stop []) (.stop [])) (S := .fork (decide (i < c)) (.stop (Hd.leaf (.tuple [.agg lpZ, .int .i64 5])) [] ([])) (.stop (Hd.leaf (.tuple [.agg lpZ, .int .i64 5])) [] ([]))) (by kernel_rfl) ?_
               refine hold_forkD (fun h15 => ?_) (fun h15 => ?_)
               ·
                refine hold_stop (fun hd hb => ?_)
                exact ok_leaf0 hd rfl (.inr ⟨fun h => by have := h.1; omega, rfl, rfl⟩)
               refine hold_stop (fun hd hb => ?_)
               exact ok_leaf0 hd rfl (.inr ⟨fun h => by have := h.1; omega, rfl, rfl⟩)
              refine ok_sk (.stop [1]) (S := .stop (Hd.call 33 [.ptr 1 0, .int .i64 1]) [1] ([bk 1 [.data 1 n (by8 y), .sint .i64 (38 : Int), .bool true]])) (by kernel_rfl) ?_
              refine hold_stop (fun hd hb => ?_)
              refine rd_call hd (rb1 n y _ hn ?_) hb (by kernel_rfl) fit_n ?_
              focus omega
              rintro x G ⟨rfl, rfl⟩
              refine ok_sk (.stop [0, 1, 3]) (S := .stop (Hd.loop 42 [.data 1 n (by8 y), .tuple [], .ptr 0 0, .int .i64 0, .ptr 1 0, .ptr 3 0, .int .i64 0, .int .i64 0, .data 1 n (by8 y), .agg [.data 1 n (by8 y), .int .i64 0, .bool false], .ptr 1 0, .ptr 1 0, .sint .u64 (n1 (sh y 0)), .sint .u8 (n1 (sh y 0) % 256), .agg [.sint .u8 (n1 (sh y 0) % 256), .int .i64 0, .int .u8 0, .int .u64 0, .int .i64 0, .int .i64 0, .int .u64 0, .int .u64 0, .int .i64 0, .int .i64 0, .int .i64 0, .nilSlice], .ptr 1 0, .sint .u64 (n2 (sh y 1)), .sint .i64 (n2 (sh y 1)), m2 y 1, .ptr 3 1, .ptr 1 0, .sint .u64 (n2 (sh y 3)), .sint .i64 (n2 (sh y 3)), m2 y 3, .ptr 3 9, .ptr 1 0, .sint .u64 (n2 (sh y 5)), .sint .i64 (n2 (sh y 5)), m2 y 5, .ptr 3 8, .ptr 1 0, .sint .u64 (n4 (sh y 7)), .sint .i64 (n4 (sh y 7)), m4 y 7, .ptr 3 10, .ptr 1 0, .sint .u64 (n1 (sh y 11)), .sint .u8 (n1 (sh y 11) % 256), .ptr 3 2, .ptr 3 2, .ptr 1 0, q8 y 12, .ptr 3 2, .ptr 3 3, .ptr 1 0, .sint .u64 (n2 (sh y 20)), .sint .i64 (n2 (sh y 20)), m2 y 20, .ptr 3 2, .ptr 3 4, .ptr 1 0, q8 y 22, .sint .u64 (n8 (sh y 22) - 1), .sint .i64 (n8 (sh y 22) - 1), .ptr 3 2, .ptr 3 5, .ptr 1 0, q8 y 30, .ptr 3 2, .ptr 3 6, .ptr 1 0, .int .u64 0, .ptr 3 2, .ptr 3 7, .ptr 1 0, .int .u64 0, .int .i64 0, .tuple [], .tuple [], .tuple [], .tuple [], .tuple [], .tuple [], .tuple [], .tuple [], .tuple [], .tuple [], .tuple [], .tuple [], .tuple [], .tuple [], .tuple [], .tuple [], .tuple [], .tuple [], .tuple [], .tuple [], .tuple [], .tuple [], .tuple [], .tuple [], .tuple [], .tuple [], .tuple [], .tuple [], .tuple [], .tuple [], .tuple [], .tuple [], .tuple [], .tuple [], .tuple [], .tuple [], .tuple [], .tuple [], .tuple [], .tuple []]) [0, 1, 3] ([bk 0 lpZ, bk 1 [.data 1 n (by8 y), .sint .i64 (38 : Int), .bool true], bk 3 [.sint .u8 (n1 (sh y 0) % 256), m2 y 1, .sint .u8 (n1 (sh y 11) % 256), q8 y 12, m2 y 20, .sint .i64 (n8 (sh y 22) - 1), q8 y 30, .int .u64 0, m2 y 5, m2 y 3, m4 y 7, .nilSlice]])) (by kernel_rfl) ?_
              refine hold_stop (fun hd hb => ?_)
              refine ok_loop hd (X := VS n y) vbT vbG (fun _ => 0) [some 0, some 1, some 3] ⟨_, 0, 0, ?_⟩ (fits3t (look_get hb 0 rfl rfl).1 (look_get hb 1 rfl rfl).1 (look_get hb 2 rfl rfl).1 (by decide) (vT_fit fit_i fit_i) lpZ_fit (rd_fit fit_n) brt_fit) ?_
              focus omega
              rintro ⟨a0, c, i, k⟩
              refine ok_sk (.both (.stop []) (.stop [])) (S := .fork (decide (i < c)) (.stop (Hd.leaf (.tuple [.agg lpZ, .int .i64 5])) [] ([])) (.stop (Hd.leaf (.tuple [.agg lpZ, .int .i64 5])) [] ([]))) (by kernel_rfl) ?_
              refine hold_forkD (fun h15 => ?_) (fun h15 => ?_)
              ·
               refine hold_stop (fun hd hb => ?_)
               exact ok_leaf0 hd rfl (.inr ⟨fun h => by have := h.1; omega, rfl, rfl⟩)
              refine hold_stop (fun hd hb => ?_)
              exact ok_leaf0 hd rfl (.inr ⟨fun h => by have := h.1; omega, rfl, rfl⟩)
             refine ok_sk (.stop [1]) (S := .stop (Hd.call 33 [.ptr 1 0, .int .i64 8]) [1] ([bk 1 [.data 1 n (by8 y), .sint .i64 (30 : Int), .bool true]])) (by kernel_rfl) ?_
             refine hold_stop (fun hd hb => ?_)
             refine rd_call hd (rb8 n y _ hn ?_) hb (by kernel_rfl) fit_n ?_
             focus omega
             rintro x G ⟨rfl, rfl⟩
             refine ok_sk (.stop [1]) (S := .stop (Hd.call 33 [.ptr 1 0, .int .i64 1]) [1] ([bk 1 [.data 1 n (by8 y), .sint .i64 (30 : Int), .bool true]])) (by kernel_rfl) ?_
             refine hold_stop (fun hd hb => ?_)
             refine rd_call hd (rb1 n y _ hn ?_) hb (by kernel_rfl) fit_n ?_
             focus omega
             rintro x G ⟨rfl, rfl⟩
             refine ok_sk (.stop [0, 1, 3]) (S := .stop (Hd.loop 42 [.data 1 n (by8 y), .tuple [], .ptr 0 0, .int .i64 0, .ptr 1 0, .ptr 3 0, .int .i64 0, .int .i64 0, .data 1 n (by8 y), .agg [.data 1 n (by8 y), .int .i64 0, .bool false], .ptr 1 0, .ptr 1 0, .sint .u64 (n1 (sh y 0)), .sint .u8 (n1 (sh y 0) % 256), .agg [.sint .u8 (n1 (sh y 0) % 256), .int .i64 0, .int .u8 0, .int .u64 0, .int .i64 0, .int .i64 0, .int .u64 0, .int .u64 0, .int .i64 0, .int .i64 0, .int .i64 0, .nilSlice], .ptr 1 0, .sint .u64 (n2 (sh y 1)), .sint .i64 (n2 (sh y 1)), m2 y 1, .ptr 3 1, .ptr 1 0, .sint .u64 (n2 (sh y 3)), .sint .i64 (n2 (sh y 3)), m2 y 3, .ptr 3 9, .ptr 1 0, .sint .u64 (n2 (sh y 5)), .sint .i64 (n2 (sh y 5)), m2 y 5, .ptr 3 8, .ptr 1 0, .sint .u64 (n4 (sh y 7)), .sint .i64 (n4 (sh y 7)), m4 y 7, .ptr 3 10, .ptr 1 0, .sint .u64 (n1 (sh y 11)), .sint .u8 (n1 (sh y 11) % 256), .ptr 3 2, .ptr 3 2, .ptr 1 0, q8 y 12, .ptr 3 2, .ptr 3 3, .ptr 1 0, .sint .u64 (n2 (sh y 20)), .sint .i64 (n2 (sh y 20)), m2 y 20, .ptr 3 2, .ptr 3 4, .ptr 1 0, q8 y 22, .sint .u64 (n8 (sh y 22) - 1), .sint .i64 (n8 (sh y 22) - 1), .ptr 3 2, .ptr 3 5, .ptr 1 0, .int .u64 0, .ptr 3 2, .ptr 3 6, .ptr 1 0, .int .u64 0, .ptr 3 2, .ptr 3 7, .ptr 1 0, .int .u64 0, .int .i64 0, .tuple [], .tuple [], .tuple [], .tuple [], .tuple [], .tuple [], .tuple [], .tuple [], .tuple [], .tuple [], .tuple [], .tuple [], .tuple [], .tuple [], .tuple [], .tuple [], .tuple [], .tuple [], .tuple [], .tuple [], .tuple [], .tuple [], .tuple [], .tuple [], .tuple [], .tuple [], .tuple [], .tuple [], .tuple [], .tuple [], .tuple [], .tuple [], .tuple [], .tuple [], .tuple [], .tuple [], .tuple [], .tuple [], .tuple [], .tuple []]) [0, 1, 3] ([bk 0 lpZ, bk 1 [.data 1 n (by8 y), .sint .i64 (30 : Int), .bool true], bk 3 [.sint .u8 (n1 (sh y 0) % 256), m2 y 1, .sint .u8 (n1 (sh y 11) % 256), q8 y 12, m2 y 20, .sint .i64 (n8 (sh y 22) - 1), .int .u64 0, .int .u64 0, m2 y 5, m2 y 3, m4 y 7, .nilSlice]])) (by kernel_rfl) ?_
             refine hold_stop (fun hd hb => ?_)
             refine ok_loop hd (X := VS n y) vbT vbG (fun _ => 0) [some 0, some 1, some 3] ⟨_, 0, 0, ?_⟩ (fits3t (look_get hb 0 rfl rfl).1 (look_get hb 1 rfl rfl).1 (look_get hb 2 rfl rfl).1 (by decide) (vT_fit fit_i fit_i) lpZ_fit (rd_fit fit_n) brt_fit) ?_
             focus omega
             rintro ⟨a0, c, i, k⟩
             refine ok_sk (.both (.stop []) (.stop [])) (S := .fork (decide (i < c)) (.stop (Hd.leaf (.tuple [.agg lpZ, .int .i64 5])) [] ([])) (.stop (Hd.leaf (.tuple [.agg lpZ, .int .i64 5])) [] ([]))) (by kernel_rfl) ?_
             refine hold_forkD (fun h15 => ?_) (fun h15 => ?_)
             ·
              refine hold_stop (fun hd hb => ?_)
              exact ok_leaf0 hd rfl (.inr ⟨fun h => by have := h.1; omega, rfl, rfl⟩)
             refine hold_stop (fun hd hb => ?_)
             exact ok_leaf0 hd rfl (.inr ⟨fun h => by have := h.1; omega, rfl, rfl⟩)
            refine hold_stop (fun hd hb => ?_)
            refine rd_call hd (rk8 n y _ hn ?_) hb (by kernel_rfl) fit_n ?_
            focus omega
            rintro x G (⟨h, rfl, rfl⟩ | ⟨h, rfl, rfl⟩)
            ·
             refine ok_sk (.stop [1]) (S := .stop (Hd.call 33 [.ptr 1 0, .int .i64 8]) [1] ([bk 1 [.data 1 n (by8 y), .sint .i64 (38 : Int), .bool false]])) (by kernel_rfl) ?_
             refine hold_stop (fun hd hb => ?_)
             refine rd_call hd (rk8 n y _ hn ?_) hb (by kernel_rfl) fit_n ?_
             focus omega
             rintro x G (⟨h, rfl, rfl⟩ | ⟨h, rfl, rfl⟩)
             ·
              refine ok_sk (.stop [1]) (S := .stop (Hd.call 33 [.ptr 1 0, .int .i64 1]) [1] ([bk 1 [.data 1 n (by8 y), .sint .i64 (46 : Int), .bool false]])) (by kernel_rfl) ?_
              refine hold_stop (fun hd hb => ?_)
              refine rd_call hd (rk1 n y _ hn ?_) hb (by kernel_rfl) fit_n ?_
              focus omega
              rintro x G (⟨h, rfl, rfl⟩ | ⟨h, rfl, rfl⟩)
              ·
               refine ok_sk (.l (.stop [0, 1, 3])) (S := .left (decide ((-9223372036854775808 : Int) ≤ n1 (sh y 46) ∧ n1 (sh y 46) ≤ 9223372036854775807)) (.stop (Hd.loop 42 [.data 1 n (by8 y), .tuple [], .ptr 0 0, .int .i64 0, .ptr 1 0, .ptr 3 0, .sint .i64 (n1 (sh y 46)), .int .i64 0, .data 1 n (by8 y), .agg [.data 1 n (by8 y), .int .i64 0, .bool false], .ptr 1 0, .ptr 1 0, .sint .u64 (n1 (sh y 0)), .sint .u8 (n1 (sh y 0) % 256), .agg [.sint .u8 (n1 (sh y 0) % 256), .int .i64 0, .int .u8 0, .int .u64 0, .int .i64 0, .int .i64 0, .int .u64 0, .int .u64 0, .int .i64 0, .int .i64 0, .int .i64 0, .nilSlice], .ptr 1 0, .sint .u64 (n2 (sh y 1)), .sint .i64 (n2 (sh y 1)), m2 y 1, .ptr 3 1, .ptr 1 0, .sint .u64 (n2 (sh y 3)), .sint .i64 (n2 (sh y 3)), m2 y 3, .ptr 3 9, .ptr 1 0, .sint .u64 (n2 (sh y 5)), .sint .i64 (n2 (sh y 5)), m2 y 5, .ptr 3 8, .ptr 1 0, .sint .u64 (n4 (sh y 7)), .sint .i64 (n4 (sh y 7)), m4 y 7, .ptr 3 10, .ptr 1 0, .sint .u64 (n1 (sh y 11)), .sint .u8 (n1 (sh y 11) % 256), .ptr 3 2, .ptr 3 2, .ptr 1 0, q8 y 12, .ptr 3 2, .ptr 3 3, .ptr 1 0, .sint .u64 (n2 (sh y 20)), .sint .i64 (n2 (sh y 20)), m2 y 20, .ptr 3 2, .ptr 3 4, .ptr 1 0, q8 y 22, .sint .u64 (n8 (sh y 22) - 1), .sint .i64 (IntKind.i64.wrap (n8 (sh y 22) - 1)), .ptr 3 2, .ptr 3 5, .ptr 1 0, q8 y 30, .ptr 3 2, .ptr 3 6, .ptr 1 0, q8 y 38, .ptr 3 2, .ptr 3 7, .ptr 1 0, .sint .u64 (n1 (sh y 46)), .sint .i64 (n1 (sh y 46)), .tuple [], .tuple [], .tuple [], .tuple [], .tuple [], .tuple [], .tuple [], .tuple [], .tuple [], .tuple [], .tuple [], .tuple [], .tuple [], .tuple [], .tuple [], .tuple [], .tuple [], .tuple [], .tuple [], .tuple [], .tuple [], .tuple [], .tuple [], .tuple [], .tuple [], .tuple [], .tuple [], .tuple [], .tuple [], .tuple [], .tuple [], .tuple [], .tuple [], .tuple [], .tuple [], .tuple [], .tuple [], .tuple [], .tuple [], .tuple []]) [0, 1, 3] ([bk 0 lpZ, bk 1 [.data 1 n (by8 y), .sint .i64 (47 : Int), .bool false], bk 3 [.sint .u8 (n1 (sh y 0) % 256), m2 y 1, .sint .u8 (n1 (sh y 11) % 256), q8 y 12, m2 y 20, .sint .i64 (IntKind.i64.wrap (n8 (sh y 22) - 1)), q8 y 30, q8 y 38, m2 y 5, m2 y 3, m4 y 7, .nilSlice]]))) (by kernel_rfl) ?_
               refine hl (bc fun h14 => by omega) ?_
               refine hold_stop (fun hd hb => ?_)
               refine ok_loop hd (X := GS n y ⊕ VS n y) vgT vgG vgM [some 0, some 1, some 3, none] (.inl ⟨0, IntKind.i64.wrap (n8 (sh y 22) - 1), ?_, ?_⟩) (fits3n (look_get hb 0 rfl rfl).1 (look_get hb 1 rfl rfl).1 (look_get hb 2 rfl rfl).1 (by decide) (vT_fit fit_n fit_i) lpZ_fit (rd_fit ⟨rfl, rfl⟩) (gr_fit fit_nil rfl)) ?_
               focus omega
               focus exact ⟨fun h => by omega, fun h => by omega⟩
               rintro (⟨i, am, k, hA⟩ | ⟨a0, c, i, k⟩)
               all_goals (have bi := n1_bd (sh y (47 + (i : Int)).toNat))
               ·
                refine ok_sk (.both (.stop [1]) (.r (.l (.stop [3])))) (S := .fork (decide ((↑i : Int) < n1 (sh y 46))) (.stop (Hd.call 33 [.ptr 1 0, .int .i64 1]) [1] ([bk 1 [.data 1 n (by8 y), .sint .i64 ((47 : Int) + (↑i : Int)), .bool false]])) (.right (decide ((↑n : Int) = 0)) (.left (@decide (AllBytes n (by8 y)) pd) (.stop (Hd.call 9 [.agg [.sint .u8 (n1 (sh y 0) % 256), .sint .i64 (n2 (sh y 1) - 1), .sint .u8 (n1 (sh y 11) % 256), .sint .u64 (n8 (sh y 12)), .sint .i64 (n2 (sh y 20) - 1), .sint .i64 am, .sint .u64 (n8 (sh y 30)), .sint .u64 (n8 (sh y 38)), .sint .i64 (n2 (sh y 5) - 1), .sint .i64 (n2 (sh y 3) - 1), .sint .i64 (n4 (sh y 7) - 1), .gsl 3 i]]) [3] ([(some (Blk.seq 3 1 i (pk y)), some (1, i, pk y))]))))) (by kernel_rfl) ?_
                refine hold_forkD (fun h15 => ?_) (fun h15 => ?_)
                ·
                 refine hold_stop (fun hd hb => ?_)
                 refine rd_call hd (rk1 n y _ hn ?_) hb (by kernel_rfl) fit_n ?_
                 focus omega
                 rintro x G (⟨h, rfl, rfl⟩ | ⟨h, rfl, rfl⟩)
                 ·
                  refine ok_sk (.l (.l (.l (.l (.l (.l (.l (.l (.l (.l (.l (.l (.stop [0, 1, 2, 3, 5, 6]))))))))))))) (S := .left (decide (i = i)) (.left (decide ((-9223372036854775808 : Int) ≤ n1 (sh y ((47 : Int) + (↑i : Int)).toNat) ∧ n1 (sh y ((47 : Int) + (↑i : Int)).toNat) ≤ 9223372036854775807)) (.left (decide ((-9223372036854775808 : Int) ≤ n1 (sh y ((47 : Int) + (↑i : Int)).toNat) - 1 ∧ n1 (sh y ((47 : Int) + (↑i : Int)).toNat) - 1 ≤ 9223372036854775807)) (.left (decide (n1 (sh y ((47 : Int) + (↑i : Int)).toNat) - 1 = n1 (sh y ((47 : Int) + (↑i : Int)).toNat) - 1)) (.left (decide ((-9223372036854775808 : Int) ≤ n1 (sh y ((47 : Int) + (↑i : Int)).toNat) - 1 ∧ n1 (sh y ((47 : Int) + (↑i : Int)).toNat) - 1 ≤ 9223372036854775807)) (.left (decide (n1 (sh y ((47 : Int) + (↑i : Int)).toNat) - 1 = n1 (sh y ((47 : Int) + (↑i : Int)).toNat) - 1)) (.left (decide ((-9223372036854775808 : Int) ≤ n1 (sh y ((47 : Int) + (↑i : Int)).toNat) ∧ n1 (sh y ((47 : Int) + (↑i : Int)).toNat) ≤ 9223372036854775807)) (.left (decide (n1 (sh y ((47 : Int) + (↑i : Int)).toNat) = n1 (sh y ((47 : Int) + (↑i : Int)).toNat))) (.left (decide (i = i)) (.left (@decide (1 < 65536 ∧ RowsOK 1 1 fun (i_1 : Nat) => List.take 1 (List.drop (i_1 * 1) [.sint .i64 (n1 (sh y ((47 : Int) + (↑i : Int)).toNat) - 1)])) pd) (.left (decide (i ≤ i ∧ i < 65536)) (.left (decide ((-9223372036854775808 : Int) ≤ (↑i : Int) + 1 ∧ (↑i : Int) + 1 ≤ 9223372036854775807)) (.stop (Hd.again (again' vgT vgG vgM (Sum.inl { i := i, am := am, k := k, ha := hA })) [.data 1 n (by8 y), .top, .ptr 0 0, .top, .ptr 1 0, .ptr 2 0, .sint .i64 (n1 (sh y 46)), .sint .i64 ((↑i : Int) + 1), .top, .top, .top, .top, .top, .top, .top, .top, .top, .top, .top, .top, .top, .top, .top, .top, .top, .top, .top, .top, .top, .top, .top, .top, .top, .top, .top, .top, .top, .top, .top, .top, .top, .top, .top, .top, .top, .top, .top, .top, .top, .top, .top, .top, .top, .top, .top, .top, .top, .top, .top, .top, .top, .top, .top, .top, .top, .top, .top, .sint .i64 (↑i : Int), .sint .i64 (n1 (sh y 46)), .bool true, .bool true, .ptr 1 0, .ptr 1 0, .ptr 1 2, .bool false, .bool true, .bool true, .sint .i64 (↑i : Int), .sint .i64 ((↑i : Int) + 1), .ptr 2 11, .gsl 3 i, .ptr 1 0, .sint .u64 (n1 (sh y ((47 : Int) + (↑i : Int)).toNat)), .sint .i64 (n1 (sh y ((47 : Int) + (↑i : Int)).toNat)), .sint .i64 (n1 (sh y ((47 : Int) + (↑i : Int)).toNat) - 1), .slice 5 0 1 1 true, .gsl 6 (i + 1), .ptr 2 11, .top, .top, .top, .top, .top, .top, .top, .top, .top, .top, .top, .top, .top, .top, .top, .top, .top, .top, .top]) [0, 1, 2, 3, 5, 6] ([bk 0 lpZ, bk 1 [.data 1 n (by8 y), .sint .i64 ((47 : Int) + (↑i : Int) + 1), .bool false], bk 2 [.sint .u8 (n1 (sh y 0) % 256), m2 y 1, .sint .u8 (n1 (sh y 11) % 256), q8 y 12, m2 y 20, .sint .i64 am, q8 y 30, q8 y 38, m2 y 5, m2 y 3, m4 y 7, .gsl 6 (i + 1)], (some Blk.dead, none), bk 5 [.sint .i64 (n1 (sh y ((47 : Int) + (↑i : Int)).toNat) - 1)], (some (Blk.seq 6 1 (i + 1) (glue i (pk y) fun (i_1 : Nat) => List.take 1 (List.drop (i_1 * 1) [.sint .i64 (n1 (sh y ((47 : Int) + (↑i : Int)).toNat) - 1)]))), some (1, i + 1, glue i (pk y) fun (i_1 : Nat) => List.take 1 (List.drop (i_1 * 1) [.sint .i64 (n1 (sh y ((47 : Int) + (↑i : Int)).toNat) - 1)])))])))))))))))))) (by kernel_rfl) ?_
                  refine hl (bc fun h17 => by omega) ?_
                  refine hl (bc fun h17 => by omega) ?_
                  refine hl (bc fun h17 => by omega) ?_
                  refine hl (bc fun h17 => by omega) ?_
                  refine hl (bc fun h17 => by omega) ?_
                  refine hl (bc fun h17 => by omega) ?_
                  refine hl (bc fun h17 => by omega) ?_
                  refine hl (bc fun h17 => by omega) ?_
                  refine hl (bc fun h17 => by omega) ?_
                  refine hl (bc fun h17 => by exact h17 ⟨by omega, fun j hj => by obtain rfl : j = 0 := (by omega); exact ⟨rfl, rfl⟩⟩) ?_
                  refine hl (bc fun h17 => by omega) ?_
                  refine hl (bc fun h17 => by omega) ?_
                  refine hold_stop (fun hd hb => ?_)
                  refine ok_again hd [some 0, some 1, some 2, some 6] (.inl ⟨i + 1, am, ?_, hA⟩) ?_ (fits3s (look_get hb 0 rfl rfl).1 (look_get hb 1 rfl rfl).1 (look_get hb 2 rfl rfl).1 (look_get hb 5 rfl rfl).2 (by decide) (vT_fit fit_n ⟨rfl, rfl⟩) lpZ_fit (rd_fit ⟨rfl, ?_⟩) (gr_fit (fit_g rfl) rfl) (Nat.le_refl _) (pk_glue ?_))
                  · omega
                  · show (n1 (sh y 46) - ((i + 1 : Nat) : Int)).toNat + 1 < (n1 (sh y 46) - (i : Int)).toNat + 1
                    omega
                  · show 47 + ((i + 1 : Nat) : Int) = 47 + (i : Int) + 1
                    omega
                  · show [AV.sint .i64 (n1 (sh y (47 + (i : Int)).toNat) - 1)] = pk y i
                    rw [show (47 + (i : Int)).toNat = 47 + i by omega]
                    rfl
                 refine ok_sk (.l (.l (.l (.l (.l (.stop [0, 1, 2, 3, 5, 6])))))) (S := .left (decide (i = i)) (.left (decide (i = i)) (.left (@decide (1 < 65536 ∧ RowsOK 1 1 fun (i : Nat) => List.take 1 (List.drop (i * 1) [.int .i64 (Int.negSucc 0)])) pd) (.left (decide (i ≤ i ∧ i < 65536)) (.left (decide ((-9223372036854775808 : Int) ≤ (↑i : Int) + 1 ∧ (↑i : Int) + 1 ≤ 9223372036854775807)) (.stop (Hd.again (again' vgT vgG vgM (Sum.inl { i := i, am := am, k := k, ha := hA })) [.data 1 n (by8 y), .top, .ptr 0 0, .top, .ptr 1 0, .ptr 2 0, .sint .i64 (n1 (sh y 46)), .sint .i64 ((↑i : Int) + 1), .top, .top, .top, .top, .top, .top, .top, .top, .top, .top, .top, .top, .top, .top, .top, .top, .top, .top, .top, .top, .top, .top, .top, .top, .top, .top, .top, .top, .top, .top, .top, .top, .top, .top, .top, .top, .top, .top, .top, .top, .top, .top, .top, .top, .top, .top, .top, .top, .top, .top, .top, .top, .top, .top, .top, .top, .top, .top, .top, .sint .i64 (↑i : Int), .sint .i64 (n1 (sh y 46)), .bool true, .bool true, .ptr 1 0, .ptr 1 0, .ptr 1 2, .bool false, .bool true, .bool true, .sint .i64 (↑i : Int), .sint .i64 ((↑i : Int) + 1), .ptr 2 11, .gsl 3 i, .ptr 1 0, .int .u64 0, .int .i64 0, .int .i64 (Int.negSucc 0), .slice 5 0 1 1 true, .gsl 6 (i + 1), .ptr 2 11, .top, .top, .top, .top, .top, .top, .top, .top, .top, .top, .top, .top, .top, .top, .top, .top, .top, .top, .top]) [0, 1, 2, 3, 5, 6] ([bk 0 lpZ, bk 1 [.data 1 n (by8 y), .sint .i64 ((47 : Int) + (↑i : Int)), .bool true], bk 2 [.sint .u8 (n1 (sh y 0) % 256), m2 y 1, .sint .u8 (n1 (sh y 11) % 256), q8 y 12, m2 y 20, .sint .i64 am, q8 y 30, q8 y 38, m2 y 5, m2 y 3, m4 y 7, .gsl 6 (i + 1)], (some Blk.dead, none), bk 5 [.int .i64 (Int.negSucc 0)], (some (Blk.seq 6 1 (i + 1) (glue i (pk y) fun (i : Nat) => List.take 1 (List.drop (i * 1) [.int .i64 (Int.negSucc 0)]))), some (1, i + 1, glue i (pk y) fun (i : Nat) => List.take 1 (List.drop (i * 1) [.int .i64 (Int.negSucc 0)])))]))))))) (by kernel_rfl) ?_
                 refine hl (bc fun h17 => by omega) ?_
                 refine hl (bc fun h17 => by omega) ?_
                 refine hl (bc fun h17 => by exact h17 ⟨by omega, fun j hj => by obtain rfl : j = 0 := (by omega); exact ⟨rfl, rfl⟩⟩) ?_
                 refine hl (bc fun h17 => by omega) ?_
                 refine hl (bc fun h17 => by omega) ?_
                 refine hold_stop (fun hd hb => ?_)
                 refine ok_again hd [some 0, some 1, some 2] (.inr ⟨47 + (i : Int), n1 (sh y 46), (i : Int) + 1, ?_⟩) ?_ (fits3t (look_get hb 0 rfl rfl).1 (look_get hb 1 rfl rfl).1 (look_get hb 2 rfl rfl).1 (by decide) (vT_fit fit_n fit_n) lpZ_fit (rd_fit fit_n) brt_fit)
                 · omega
                 · show 0 < (n1 (sh y 46) - (i : Int)).toNat + 1
                   omega
                refine hzr (fun h16 => by omega) ?_
                refine hl (bc fun h16 => by exact h16 (all_by8 _ _)) ?_
                refine hold_stop (fun hd hb => ?_)
                refine ok_call hd (rputT (stY y am) i (pkI y) (by omega) (stY_rng y am)) (st_view (s := stY y am) (look_get hb 0 rfl rfl).2 (Nat.le_refl _) (fun j hj => rfl)) ?_
                rintro x G (⟨rfl, rfl, my⟩ | ⟨my, rfl, rfl⟩) <;> first | refine ⟨rfl, fun g hg => (by rcases List.mem_singleton.1 hg with rfl; exact fun _ _ => rfl), ?_⟩ | refine ⟨rfl, fun g hg => (by cases hg), ?_⟩
                ·
                 refine ok_sk (.l (.l (.l (.r (.stop []))))) (S := .left (@decide (AllBytes n (by8 y)) pd) (.left (decide (bytesOf n (by8 y) = bytesOf n (by8 y))) (.left (@decide (1 = 1 ∧ n = n ∧ by8 y = by8 y) pd) (.right (decide ([] = bytesOf n (by8 y))) (.stop (Hd.leaf (.tuple [.agg lpZ, .int .i64 5])) [] ([])))))) (by kernel_rfl) ?_
                 refine hl (bc fun h17 => by exact h17 (all_by8 _ _)) ?_
                 refine hl (bc fun h17 => by exact h17 rfl) ?_
                 refine hl (bc fun h17 => by exact h17 ⟨rfl, rfl, rfl⟩) ?_
                 refine hzr (fun h17 => by (have h0 := congrArg List.length h17; rw [bytes_len] at h0; simp at h0; omega)) ?_
                 refine hold_stop (fun hd hb => ?_)
                 exact ok_leaf0 hd rfl (.inr ⟨no_st hA my (by omega), rfl, rfl⟩)
                refine ok_sk (.l (.l (.l (.l (.both (.stop [3]) (.stop [])))))) (S := .left (@decide (AllBytes n (by8 y)) pd) (.left (decide (bytesOf n (by8 y) = bytesOf n (by8 y))) (.left (@decide (1 = 1 ∧ n = n ∧ by8 y = by8 y) pd) (.left (@decide (47 + i ≤ 47 + i ∧ AllBytes (47 + i) (rowT (stY y am) i (pkI y))) pd) (.fork (decide (bytesOf (47 + i) (rowT (stY y am) i (pkI y)) = bytesOf n (by8 y))) (.stop (Hd.leaf (.tuple [.agg [.sint .u8 (n1 (sh y 0) % 256), .sint .i64 (n2 (sh y 1) - 1), .sint .u8 (n1 (sh y 11) % 256), .sint .u64 (n8 (sh y 12)), .sint .i64 (n2 (sh y 20) - 1), .sint .i64 am, .sint .u64 (n8 (sh y 30)), .sint .u64 (n8 (sh y 38)), .sint .i64 (n2 (sh y 5) - 1), .sint .i64 (n2 (sh y 3) - 1), .sint .i64 (n4 (sh y 7) - 1), .gsl 3 i], .int .i64 0])) [3] ([(some (Blk.seq 3 1 i (pk y)), some (1, i, pk y))])) (.stop (Hd.leaf (.tuple [.agg lpZ, .int .i64 5])) [] ([]))))))) (by kernel_rfl) ?_
                refine hl (bc fun h17 => by exact h17 (all_by8 _ _)) ?_
                refine hl (bc fun h17 => by exact h17 rfl) ?_
                refine hl (bc fun h17 => by exact h17 ⟨rfl, rfl, rfl⟩) ?_
                refine hl (bc fun h17 => by exact h17 ⟨Nat.le_refl _, all_rowT _ _ _ _⟩) ?_
                refine hold_forkD (fun h17 => ?_) (fun h17 => ?_)
                ·
                 refine hold_stop (fun hd hb => ?_)
                 obtain ⟨e1, e2, hs⟩ := is_st (n := n) hA my (by omega) (put_len (am := am) (by assumption))
                 subst e1
                 subst e2
                 exact ok_leafG hd hb (y := .tuple [.agg ((stY y (n8 (sh y 22) - 1)).row (.gsl 0 (n1 (sh y 46)).toNat)), .int .i64 0]) (by simp [StI.row, stY, fitA, fitsA, nf]) (Nat.le_refl _) (fun j hj => ⟨rfl, rfl⟩) (.inl ⟨hs, rfl, rfl⟩)
                refine hold_stop (fun hd hb => ?_)
                exact ok_leaf0 hd rfl (.inr ⟨no_put hA my (by omega) (by assumption), rfl, rfl⟩)
               refine ok_sk (.both (.stop []) (.stop [])) (S := .fork (decide (i < c)) (.stop (Hd.leaf (.tuple [.agg lpZ, .int .i64 5])) [] ([])) (.stop (Hd.leaf (.tuple [.agg lpZ, .int .i64 5])) [] ([]))) (by kernel_rfl) ?_
               refine hold_forkD (fun h15 => ?_) (fun h15 => ?_)
               ·
                refine hold_stop (fun hd hb => ?_)
                exact ok_leaf0 hd rfl (.inr ⟨fun h => by have := h.1; omega, rfl, rfl⟩)
               refine hold_stop (fun hd hb => ?_)
               exact ok_leaf0 hd rfl (.inr ⟨fun h => by have := h.1; omega, rfl, rfl⟩)
              refine ok_sk (.stop [0, 1, 3]) (S := .stop (Hd.loop 42 [.data 1 n (by8 y), .tuple [], .ptr 0 0, .int .i64 0, .ptr 1 0, .ptr 3 0, .int .i64 0, .int .i64 0, .data 1 n (by8 y), .agg [.data 1 n (by8 y), .int .i64 0, .bool false], .ptr 1 0, .ptr 1 0, .sint .u64 (n1 (sh y 0)), .sint .u8 (n1 (sh y 0) % 256), .agg [.sint .u8 (n1 (sh y 0) % 256), .int .i64 0, .int .u8 0, .int .u64 0, .int .i64 0, .int .i64 0, .int .u64 0, .int .u64 0, .int .i64 0, .int .i64 0, .int .i64 0, .nilSlice], .ptr 1 0, .sint .u64 (n2 (sh y 1)), .sint .i64 (n2 (sh y 1)), m2 y 1, .ptr 3 1, .ptr 1 0, .sint .u64 (n2 (sh y 3)), .sint .i64 (n2 (sh y 3)), m2 y 3, .ptr 3 9, .ptr 1 0, .sint .u64 (n2 (sh y 5)), .sint .i64 (n2 (sh y 5)), m2 y 5, .ptr 3 8, .ptr 1 0, .sint .u64 (n4 (sh y 7)), .sint .i64 (n4 (sh y 7)), m4 y 7, .ptr 3 10, .ptr 1 0, .sint .u64 (n1 (sh y 11)), .sint .u8 (n1 (sh y 11) % 256), .ptr 3 2, .ptr 3 2, .ptr 1 0, q8 y 12, .ptr 3 2, .ptr 3 3, .ptr 1 0, .sint .u64 (n2 (sh y 20)), .sint .i64 (n2 (sh y 20)), m2 y 20, .ptr 3 2, .ptr 3 4, .ptr 1 0, q8 y 22, .sint .u64 (n8 (sh y 22) - 1), .sint .i64 (IntKind.i64.wrap (n8 (sh y 22) - 1)), .ptr 3 2, .ptr 3 5, .ptr 1 0, q8 y 30, .ptr 3 2, .ptr 3 6, .ptr 1 0, q8 y 38, .ptr 3 2, .ptr 3 7, .ptr 1 0, .int .u64 0, .int .i64 0, .tuple [], .tuple [], .tuple [], .tuple [], .tuple [], .tuple [], .tuple [], .tuple [], .tuple [], .tuple [], .tuple [], .tuple [], .tuple [], .tuple [], .tuple [], .tuple [], .tuple [], .tuple [], .tuple [], .tuple [], .tuple [], .tuple [], .tuple [], .tuple [], .tuple [], .tuple [], .tuple [], .tuple [], .tuple [], .tuple [], .tuple [], .tuple [], .tuple [], .tuple [], .tuple [], .tuple [], .tuple [], .tuple [], .tuple [], .tuple []]) [0, 1, 3] ([bk 0 lpZ, bk 1 [.data 1 n (by8 y), .sint .i64 (46 : Int), .bool true], bk 3 [.sint .u8 (n1 (sh y 0) % 256), m2 y 1, .sint .u8 (n1 (sh y 11) % 256), q8 y 12, m2 y 20, .sint .i64 (IntKind.i64.wrap (n8 (sh y 22) - 1)), q8 y 30, q8 y 38, m2 y 5, m2 y 3, m4 y 7, .nilSlice]])) (by kernel_rfl) ?_
              refine hold_stop (fun hd hb => ?_)
              refine ok_loop hd (X := VS n y) vbT vbG (fun _ => 0) [some 0, some 1, some 3] ⟨_, 0, 0, ?_⟩ (fits3t (look_get hb 0 rfl rfl).1 (look_get hb 1 rfl rfl).1 (look_get hb 2 rfl rfl).1 (by decide) (vT_fit fit_i fit_i) lpZ_fit (rd_fit fit_n) brt_fit) ?_
              focus omega
              rintro ⟨a0, c, i, k⟩
              refine ok_sk (.both (.stop []) (.stop [])) (S := .fork (decide (i < c)) (.stop (Hd.leaf (.tuple [.agg lpZ, .int .i64 5])) [] ([])) (.stop (Hd.leaf (.tuple [.agg lpZ, .int .i64 5])) [] ([]))) (by kernel_rfl) ?_
              refine hold_forkD (fun h15 => ?_) (fun h15 => ?_)
              ·
               refine hold_stop (fun hd hb => ?_)
               exact ok_leaf0 hd rfl (.inr ⟨fun h => by have := h.1; omega, rfl, rfl⟩)
              refine hold_stop (fun hd hb => ?_)
              exact ok_leaf0 hd rfl (.inr ⟨fun h => by have := h.1; omega, rfl, rfl⟩)
             refine ok_sk (.stop [1]) (S := .stop (Hd.call 33 [.ptr 1 0, .int .i64 1]) [1] ([bk 1 [.data 1 n (by8 y), .sint .i64 (38 : Int), .bool true]])) (by kernel_rfl) ?_
             refine hold_stop (fun hd hb => ?_)
             refine rd_call hd (rb1 n y _ hn ?_) hb (by kernel_rfl) fit_n ?_
             focus omega
             rintro x G ⟨rfl, rfl⟩
             refine ok_sk (.stop [0, 1, 3]) (S := .stop (Hd.loop 42 [.data 1 n (by8 y), .tuple [], .ptr 0 0, .int .i64 0, .ptr 1 0, .ptr 3 0, .int .i64 0, .int .i64 0, .data 1 n (by8 y), .agg [.data 1 n (by8 y), .int .i64 0, .bool false], .ptr 1 0, .ptr 1 0, .sint .u64 (n1 (sh y 0)), .sint .u8 (n1 (sh y 0) % 256), .agg [.sint .u8 (n1 (sh y 0) % 256), .int .i64 0, .int .u8 0, .int .u64 0, .int .i64 0, .int .i64 0, .int .u64 0, .int .u64 0, .int .i64 0, .int .i64 0, .int .i64 0, .nilSlice], .ptr 1 0, .sint .u64 (n2 (sh y 1)), .sint .i64 (n2 (sh y 1)), m2 y 1, .ptr 3 1, .ptr 1 0, .sint .u64 (n2 (sh y 3)), .sint .i64 (n2 (sh y 3)), m2 y 3, .ptr 3 9, .ptr 1 0, .sint .u64 (n2 (sh y 5)), .sint .i64 (n2 (sh y 5)), m2 y 5, .ptr 3 8, .ptr 1 0, .sint .u64 (n4 (sh y 7)), .sint .i64 (n4 (sh y 7)), m4 y 7, .ptr 3 10, .ptr 1 0, .sint .u64 (n1 (sh y 11)), .sint .u8 (n1 (sh y 11) % 256), .ptr 3 2, .ptr 3 2, .ptr 1 0, q8 y 12, .ptr 3 2, .ptr 3 3, .ptr 1 0, .sint .u64 (n2 (sh y 20)), .sint .i64 (n2 (sh y 20)), m2 y 20, .ptr 3 2, .ptr 3 4, .ptr 1 0, q8 y 22, .sint .u64 (n8 (sh y 22) - 1), .sint .i64 (IntKind.i64.wrap (n8 (sh y 22) - 1)), .ptr 3 2, .ptr 3 5, .ptr 1 0, q8 y 30, .ptr 3 2, .ptr 3 6, .ptr 1 0, .int .u64 0, .ptr 3 2, .ptr 3 7, .ptr 1 0, .int .u64 0, .int .i64 0, .tuple [], .tuple [], .tuple [], .tuple [], .tuple [], .tuple [], .tuple [], .tuple [], .tuple [], .tuple [], .tuple [], .tuple [], .tuple [], .tuple [], .tuple [], .tuple [], .tuple [], .tuple [], .tuple [], .tuple [], .tuple [], .tuple [], .tuple [], .tuple [], .tuple [], .tuple [], .tuple [], .tuple [], .tuple [], .tuple [], .tuple [], .tuple [], .tuple [], .tuple [], .tuple [], .tuple [], .tuple [], .tuple [], .tuple [], .tuple []]) [0, 1, 3] ([bk 0 lpZ, bk 1 [.data 1 n (by8 y), .sint .i64 (38 : Int), .bool true], bk 3 [.sint .u8 (n1 (sh y 0) % 256), m2 y 1, .sint .u8 (n1 (sh y 11) % 256), q8 y 12, m2 y 20, .sint .i64 (IntKind.i64.wrap (n8 (sh y 22) - 1)), q8 y 30, .int .u64 0, m2 y 5, m2 y 3, m4 y 7, .nilSlice]])) (by kernel_rfl) ?_
             refine hold_stop (fun hd hb => ?_)
             refine ok_loop hd (X := VS n y) vbT vbG (fun _ => 0) [some 0, some 1, some 3] ⟨_, 0, 0, ?_⟩ (fits3t (look_get hb 0 rfl rfl).1 (look_get hb 1 rfl rfl).1 (look_get hb 2 rfl rfl).1 (by decide) (vT_fit fit_i fit_i) lpZ_fit (rd_fit fit_n) brt_fit) ?_
             focus omega
             rintro ⟨a0, c, i, k⟩
             refine ok_sk (.both (.stop []) (.stop [])) (S := .fork (decide (i < c)) (.stop (Hd.leaf (.tuple [.agg lpZ, .int .i64 5])) [] ([])) (.stop (Hd.leaf (.tuple [.agg lpZ, .int .i64 5])) [] ([]))) (by kernel_rfl) ?_
             refine hold_forkD (fun h15 => ?_) (fun h15 => ?_)
             ·
              refine hold_stop (fun hd hb => ?_)
              exact ok_leaf0 hd rfl (.inr ⟨fun h => by have := h.1; omega, rfl, rfl⟩)
             refine hold_stop (fun hd hb => ?_)
             exact ok_leaf0 hd rfl (.inr ⟨fun h => by have := h.1; omega, rfl, rfl⟩)
            refine ok_sk (.stop [1]) (S := .stop (Hd.call 33 [.ptr 1 0, .int .i64 8]) [1] ([bk 1 [.data 1 n (by8 y), .sint .i64 (30 : Int), .bool true]])) (by kernel_rfl) ?_
            refine hold_stop (fun hd hb => ?_)
            refine rd_call hd (rb8 n y _ hn ?_) hb (by kernel_rfl) fit_n ?_
            focus omega
            rintro x G ⟨rfl, rfl⟩
            refine ok_sk (.stop [1]) (S := .stop (Hd.call 33 [.ptr 1 0, .int .i64 1]) [1] ([bk 1 [.data 1 n (by8 y), .sint .i64 (30 : Int), .bool true]])) (by kernel_rfl) ?_
            refine hold_stop (fun hd hb => ?_)
            refine rd_call hd (rb1 n y _ hn ?_) hb (by kernel_rfl) fit_n ?_
            focus omega
            rintro x G ⟨rfl, rfl⟩
            refine ok_sk (.stop [0, 1, 3]) (S := .stop (Hd.loop 42 [.data 1 n (by8 y), .tuple [], .ptr 0 0, .int .i64 0, .ptr 1 0, .ptr 3 0, .int .i64 0, .int .i64 0, .data 1 n (by8 y), .agg [.data 1 n (by8 y), .int .i64 0, .bool false], .ptr 1 0, .ptr 1 0, .sint .u64 (n1 (sh y 0)), .sint .u8 (n1 (sh y 0) % 256), .agg [.sint .u8 (n1 (sh y 0) % 256), .int .i64 0, .int .u8 0, .int .u64 0, .int .i64 0, .int .i64 0, .int .u64 0, .int .u64 0, .int .i64 0, .int .i64 0, .int .i64 0, .nilSlice], .ptr 1 0, .sint .u64 (n2 (sh y 1)), .sint .i64 (n2 (sh y 1)), m2 y 1, .ptr 3 1, .ptr 1 0, .sint .u64 (n2 (sh y 3)), .sint .i64 (n2 (sh y 3)), m2 y 3, .ptr 3 9, .ptr 1 0, .sint .u64 (n2 (sh y 5)), .sint .i64 (n2 (sh y 5)), m2 y 5, .ptr 3 8, .ptr 1 0, .sint .u64 (n4 (sh y 7)), .sint .i64 (n4 (sh y 7)), m4 y 7, .ptr 3 10, .ptr 1 0, .sint .u64 (n1 (sh y 11)), .sint .u8 (n1 (sh y 11) % 256), .ptr 3 2, .ptr 3 2, .ptr 1 0, q8 y 12, .ptr 3 2, .ptr 3 3, .ptr 1 0, .sint .u64 (n2 (sh y 20)), .sint .i64 (n2 (sh y 20)), m2 y 20, .ptr 3 2, .ptr 3 4, .ptr 1 0, q8 y 22, .sint .u64 (n8 (sh y 22) - 1), .sint .i64 (IntKind.i64.wrap (n8 (sh y 22) - 1)), .ptr 3 2, .ptr 3 5, .ptr 1 0, .int .u64 0, .ptr 3 2, .ptr 3 6, .ptr 1 0, .int .u64 0, .ptr 3 2, .ptr 3 7, .ptr 1 0, .int .u64 0, .int .i64 0, .tuple [], .tuple [], .tuple [], .tuple [], .tuple [], .tuple [], .tuple [], .tuple [], .tuple [], .tuple [], .tuple [], .tuple [], .tuple [], .tuple [], .tuple [], .tuple [], .tuple [], .tuple [], .tuple [], .tuple [], .tuple [], .tuple [], .tuple [], .tuple [], .tuple [], .tuple [], .tuple [], .tuple [], .tuple [], .tuple [], .tuple [], .tuple [], .tuple [], .tuple [], .tuple [], .tuple [], .tuple [], .tuple [], .tuple [], .tuple []]) [0, 1, 3] ([bk 0 lpZ, bk 1 [.data 1 n (by8 y), .sint .i64 (30 : Int), .bool true], bk 3 [.sint .u8 (n1 (sh y 0) % 256), m2 y 1, .sint .u8 (n1 (sh y 11) % 256), q8 y 12, m2 y 20, .sint .i64 (IntKind.i64.wrap (n8 (sh y 22) - 1)), .int .u64 0, .int .u64 0, m2 y 5, m2 y 3, m4 y 7, .nilSlice]])) (by kernel_rfl) ?_
            refine hold_stop (fun hd hb => ?_)
            refine ok_loop hd (X := VS n y) vbT vbG (fun _ => 0) [some 0, some 1, some 3] ⟨_, 0, 0, ?_⟩ (fits3t (look_get hb 0 rfl rfl).1 (look_get hb 1 rfl rfl).1 (look_get hb 2 rfl rfl).1 (by decide) (vT_fit fit_i fit_i) lpZ_fit (rd_fit fit_n) brt_fit) ?_
            focus omega
            rintro ⟨a0, c, i, k⟩
            refine ok_sk (.both (.stop []) (.stop [])) (S := .fork (decide (i < c)) (.stop (Hd.leaf (.tuple [.agg lpZ, .int .i64 5])) [] ([])) (.stop (Hd.leaf (.tuple [.agg lpZ, .int .i64 5])) [] ([]))) (by kernel_rfl) ?_
            refine hold_forkD (fun h15 => ?_) (fun h15 => ?_)
            ·
             refine hold_stop (fun hd hb => ?_)
             exact ok_leaf0 hd rfl (.inr ⟨fun h => by have := h.1; omega, rfl, rfl⟩)
            refine hold_stop (fun hd hb => ?_)
            exact ok_leaf0 hd rfl (.inr ⟨fun h => by have := h.1; omega, rfl, rfl⟩)
           refine hzr (fun h10 => by omega) ?_
           refine hold_stop (fun hd hb => ?_)
           refine rd_call hd (rk8 n y _ hn ?_) hb (by kernel_rfl) fit_n ?_
           focus omega
           rintro x G (⟨h, rfl, rfl⟩ | ⟨h, rfl, rfl⟩)
           ·
            refine ok_sk (.stop [1]) (S := .stop (Hd.call 33 [.ptr 1 0, .int .i64 8]) [1] ([bk 1 [.data 1 n (by8 y), .sint .i64 (38 : Int), .bool false]])) (by kernel_rfl) ?_
            refine hold_stop (fun hd hb => ?_)
            refine rd_call hd (rk8 n y _ hn ?_) hb (by kernel_rfl) fit_n ?_
            focus omega
            rintro x G (⟨h, rfl, rfl⟩ | ⟨h, rfl, rfl⟩)
            ·
             refine ok_sk (.stop [1]) (S := .stop (Hd.call 33 [.ptr 1 0, .int .i64 1]) [1] ([bk 1 [.data 1 n (by8 y), .sint .i64 (46 : Int), .bool false]])) (by kernel_rfl) ?_
             refine hold_stop (fun hd hb => ?_)
             refine rd_call hd (rk1 n y _ hn ?_) hb (by kernel_rfl) fit_n ?_
             focus omega
             rintro x G (⟨h, rfl, rfl⟩ | ⟨h, rfl, rfl⟩)
             ·
              refine ok_sk (.l (.stop [0, 1, 3])) (S := .left (decide ((-9223372036854775808 : Int) ≤ n1 (sh y 46) ∧ n1 (sh y 46) ≤ 9223372036854775807)) (.stop (Hd.loop 42 [.data 1 n (by8 y), .tuple [], .ptr 0 0, .int .i64 0, .ptr 1 0, .ptr 3 0, .sint .i64 (n1 (sh y 46)), .int .i64 0, .data 1 n (by8 y), .agg [.data 1 n (by8 y), .int .i64 0, .bool false], .ptr 1 0, .ptr 1 0, .sint .u64 (n1 (sh y 0)), .sint .u8 (n1 (sh y 0) % 256), .agg [.sint .u8 (n1 (sh y 0) % 256), .int .i64 0, .int .u8 0, .int .u64 0, .int .i64 0, .int .i64 0, .int .u64 0, .int .u64 0, .int .i64 0, .int .i64 0, .int .i64 0, .nilSlice], .ptr 1 0, .sint .u64 (n2 (sh y 1)), .sint .i64 (n2 (sh y 1)), m2 y 1, .ptr 3 1, .ptr 1 0, .sint .u64 (n2 (sh y 3)), .sint .i64 (n2 (sh y 3)), m2 y 3, .ptr 3 9, .ptr 1 0, .sint .u64 (n2 (sh y 5)), .sint .i64 (n2 (sh y 5)), m2 y 5, .ptr 3 8, .ptr 1 0, .sint .u64 (n4 (sh y 7)), .sint .i64 (n4 (sh y 7)), m4 y 7, .ptr 3 10, .ptr 1 0, .sint .u64 (n1 (sh y 11)), .sint .u8 (n1 (sh y 11) % 256), .ptr 3 2, .ptr 3 2, .ptr 1 0, q8 y 12, .ptr 3 2, .ptr 3 3, .ptr 1 0, .sint .u64 (n2 (sh y 20)), .sint .i64 (n2 (sh y 20)), m2 y 20, .ptr 3 2, .ptr 3 4, .ptr 1 0, q8 y 22, .sint .u64 (IntKind.u64.wrap (n8 (sh y 22) - 1)), .sint .i64 (IntKind.i64.wrap (IntKind.u64.wrap (n8 (sh y 22) - 1))), .ptr 3 2, .ptr 3 5, .ptr 1 0, q8 y 30, .ptr 3 2, .ptr 3 6, .ptr 1 0, q8 y 38, .ptr 3 2, .ptr 3 7, .ptr 1 0, .sint .u64 (n1 (sh y 46)), .sint .i64 (n1 (sh y 46)), .tuple [], .tuple [], .tuple [], .tuple [], .tuple [], .tuple [], .tuple [], .tuple [], .tuple [], .tuple [], .tuple [], .tuple [], .tuple [], .tuple [], .tuple [], .tuple [], .tuple [], .tuple [], .tuple [], .tuple [], .tuple [], .tuple [], .tuple [], .tuple [], .tuple [], .tuple [], .tuple [], .tuple [], .tuple [], .tuple [], .tuple [], .tuple [], .tuple [], .tuple [], .tuple [], .tuple [], .tuple [], .tuple [], .tuple [], .tuple []]) [0, 1, 3] ([bk 0 lpZ, bk 1 [.data 1 n (by8 y), .sint .i64 (47 : Int), .bool false], bk 3 [.sint .u8 (n1 (sh y 0) % 256), m2 y 1, .sint .u8 (n1 (sh y 11) % 256), q8 y 12, m2 y 20, .sint .i64 (IntKind.i64.wrap (IntKind.u64.wrap (n8 (sh y 22) - 1))), q8 y 30, q8 y 38, m2 y 5, m2 y 3, m4 y 7, .nilSlice]]))) (by kernel_rfl) ?_
              refine hl (bc fun h13 => by omega) ?_
              refine hold_stop (fun hd hb => ?_)
              refine ok_loop hd (X := GS n y ⊕ VS n y) vgT vgG vgM [some 0, some 1, some 3, none] (.inl ⟨0, IntKind.i64.wrap (IntKind.u64.wrap (n8 (sh y 22) - 1)), ?_, ?_⟩) (fits3n (look_get hb 0 rfl rfl).1 (look_get hb 1 rfl rfl).1 (look_get hb 2 rfl rfl).1 (by decide) (vT_fit fit_n fit_i) lpZ_fit (rd_fit ⟨rfl, rfl⟩) (gr_fit fit_nil rfl)) ?_
              focus omega
              focus exact ⟨fun h => by omega, fun h => by omega⟩
              rintro (⟨i, am, k, hA⟩ | ⟨a0, c, i, k⟩)
              all_goals (have bi := n1_bd (sh y (47 + (i : Int)).toNat))
              ·
               refine ok_sk (.both (.stop [1]) (.r (.l (.stop [3])))) (S := .fork (decide ((↑i : Int) < n1 (sh y 46))) (.stop (Hd.call 33 [.ptr 1 0, .int .i64 1]) [1] ([bk 1 [.data 1 n (by8 y), .sint .i64 ((47 : Int) + (↑i : Int)), .bool false]])) (.right (decide ((↑n : Int) = 0)) (.left (@decide (AllBytes n (by8 y)) pd) (.stop (Hd.call 9 [.agg [.sint .u8 (n1 (sh y 0) % 256), .sint .i64 (n2 (sh y 1) - 1), .sint .u8 (n1 (sh y 11) % 256), .sint .u64 (n8 (sh y 12)), .sint .i64 (n2 (sh y 20) - 1), .sint .i64 am, .sint .u64 (n8 (sh y 30)), .sint .u64 (n8 (sh y 38)), .sint .i64 (n2 (sh y 5) - 1), .sint .i64 (n2 (sh y 3) - 1), .sint .i64 (n4 (sh y 7) - 1), .gsl 3 i]]) [3] ([(some (Blk.seq 3 1 i (pk y)), some (1, i, pk y))]))))) (by kernel_rfl) ?_
               refine hold_forkD (fun h14 => ?_) (fun h14 => ?_)
               ·
                refine hold_stop (fun hd hb => ?_)
                refine rd_call hd (rk1 n y _ hn ?_) hb (by kernel_rfl) fit_n ?_
                focus omega
                rintro x G (⟨h, rfl, rfl⟩ | ⟨h, rfl, rfl⟩)
                ·
                 refine ok_sk (.l (.l (.l (.l (.l (.l (.l (.l (.l (.l (.l (.l (.stop [0, 1, 2, 3, 5, 6]))))))))))))) (S := .left (decide (i = i)) (.left (decide ((-9223372036854775808 : Int) ≤ n1 (sh y ((47 : Int) + (↑i : Int)).toNat) ∧ n1 (sh y ((47 : Int) + (↑i : Int)).toNat) ≤ 9223372036854775807)) (.left (decide ((-9223372036854775808 : Int) ≤ n1 (sh y ((47 : Int) + (↑i : Int)).toNat) - 1 ∧ n1 (sh y ((47 : Int) + (↑i : Int)).toNat) - 1 ≤ 9223372036854775807)) (.left (decide (n1 (sh y ((47 : Int) + (↑i : Int)).toNat) - 1 = n1 (sh y ((47 : Int) + (↑i : Int)).toNat) - 1)) (.left (decide ((-9223372036854775808 : Int) ≤ n1 (sh y ((47 : Int) + (↑i : Int)).toNat) - 1 ∧ n1 (sh y ((47 : Int) + (↑i : Int)).toNat) - 1 ≤ 9223372036854775807)) (.left (decide (n1 (sh y ((47 : Int) + (↑i : Int)).toNat) - 1 = n1 (sh y ((47 : Int) + (↑i : Int)).toNat) - 1)) (.left (decide ((-9223372036854775808 : Int) ≤ n1 (sh y ((47 : Int) + (↑i : Int)).toNat) ∧ n1 (sh y ((47 : Int) + (↑i : Int)).toNat) ≤ 9223372036854775807)) (.left (decide (n1 (sh y ((47 : Int) + (↑i : Int)).toNat) = n1 (sh y ((47 : Int) + (↑i : Int)).toNat))) (.left (decide (i = i)) (.left (@decide (1 < 65536 ∧ RowsOK 1 1 fun (i_1 : Nat) => List.take 1 (List.drop (i_1 * 1) [.sint .i64 (n1 (sh y ((47 : Int) + (↑i : Int)).toNat) - 1)])) pd) (.left (decide (i ≤ i ∧ i < 65536)) (.left (decide ((-9223372036854775808 : Int) ≤ (↑i : Int) + 1 ∧ (↑i : Int) + 1 ≤ 9223372036854775807)) (.stop (Hd.again (again' vgT vgG vgM (Sum.inl { i := i, am := am, k := k, ha := hA })) [.data 1 n (by8 y), .top, .ptr 0 0, .top, .ptr 1 0, .ptr 2 0, .sint .i64 (n1 (sh y 46)), .sint .i64 ((↑i : Int) + 1), .top, .top, .top, .top, .top, .top, .top, .top, .top, .top, .top, .top, .top, .top, .top, .top, .top, .top, .top, .top, .top, .top, .top, .top, .top, .top, .top, .top, .top, .top, .top, .top, .top, .top, .top, .top, .top, .top, .top, .top, .top, .top, .top, .top, .top, .top, .top, .top, .top, .top, .top, .top, .top, .top, .top, .top, .top, .top, .top, .sint .i64 (↑i : Int), .sint .i64 (n1 (sh y 46)), .bool true, .bool true, .ptr 1 0, .ptr 1 0, .ptr 1 2, .bool false, .bool true, .bool true, .sint .i64 (↑i : Int), .sint .i64 ((↑i : Int) + 1), .ptr 2 11, .gsl 3 i, .ptr 1 0, .sint .u64 (n1 (sh y ((47 : Int) + (↑i : Int)).toNat)), .sint .i64 (n1 (sh y ((47 : Int) + (↑i : Int)).toNat)), .sint .i64 (n1 (sh y ((47 : Int) + (↑i : Int)).toNat) - 1), .slice 5 0 1 1 true, .gsl 6 (i + 1), .ptr 2 11, .top, .top, .top, .top, .top, .top, .top, .top, .top, .top, .top, .top, .top, .top, .top, .top, .top, .top, .top]) [0, 1, 2, 3, 5, 6] ([bk 0 lpZ, bk 1 [.data 1 n (by8 y), .sint .i64 ((47 : Int) + (↑i : Int) + 1), .bool false], bk 2 [.sint .u8 (n1 (sh y 0) % 256), m2 y 1, .sint .u8 (n1 (sh y 11) % 256), q8 y 12, m2 y 20, .sint .i64 am, q8 y 30, q8 y 38, m2 y 5, m2 y 3, m4 y 7, .gsl 6 (i + 1)], (some Blk.dead, none), bk 5 [.sint .i64 (n1 (sh y ((47 : Int) + (↑i : Int)).toNat) - 1)], (some (Blk.seq 6 1 (i + 1) (glue i (pk y) fun (i_1 : Nat) => List.take 1 (List.drop (i_1 * 1) [.sint .i64 (n1 (sh y ((47 : Int) + (↑i : Int)).toNat) - 1)]))), some (1, i + 1, glue i (pk y) fun (i_1 : Nat) => List.take 1 (List.drop (i_1 * 1) [.sint .i64 (n1 (sh y ((47 : Int) + (↑i : Int)).toNat) - 1)])))])))))))))))))) (by kernel_rfl) ?_
                 refine hl (bc fun h16 => by omega) ?_
                 refine hl (bc fun h16 => by omega) ?_
                 refine hl (bc fun h16 => by omega) ?_
                 refine hl (bc fun h16 => by omega) ?_
                 refine hl (bc fun h16 => by omega) ?_
                 refine hl (bc fun h16 => by omega) ?_
                 refine hl (bc fun h16 => by omega) ?_
                 refine hl (bc fun h16 => by omega) ?_
                 refine hl (bc fun h16 => by omega) ?_
                 refine hl (bc fun h16 => by exact h16 ⟨by omega, fun j hj => by obtain rfl : j = 0 := (by omega); exact ⟨rfl, rfl⟩⟩) ?_
                 refine hl (bc fun h16 => by omega) ?_
                 refine hl (bc fun h16 => by omega) ?_
                 refine hold_stop (fun hd hb => ?_)
                 refine ok_again hd [some 0, some 1, some 2, some 6] (.inl ⟨i + 1, am, ?_, hA⟩) ?_ (fits3s (look_get hb 0 rfl rfl).1 (look_get hb 1 rfl rfl).1 (look_get hb 2 rfl rfl).1 (look_get hb 5 rfl rfl).2 (by decide) (vT_fit fit_n ⟨rfl, rfl⟩) lpZ_fit (rd_fit ⟨rfl, ?_⟩) (gr_fit (fit_g rfl) rfl) (Nat.le_refl _) (pk_glue ?_))
                 · omega
                 · show (n1 (sh y 46) - ((i + 1 : Nat) : Int)).toNat + 1 < (n1 (sh y 46) - (i : Int)).toNat + 1
                   omega
                 · show 47 + ((i + 1 : Nat) : Int) = 47 + (i : Int) + 1
                   omega
                 · show [AV.sint .i64 (n1 (sh y (47 + (i : Int)).toNat) - 1)] = pk y i
                   rw [show (47 + (i : Int)).toNat = 47 + i by omega]
                   rfl
                refine ok_sk (.l (.l (.l (.l (.l (.stop [0, 1, 2, 3, 5, 6])))))) (S := .left (decide (i = i)) (.left (decide (i = i)) (.left (@decide (1 < 65536 ∧ RowsOK 1 1 fun (i : Nat) => List.take 1 (List.drop (i * 1) [.int .i64 (Int.negSucc 0)])) pd) (.left (decide (i ≤ i ∧ i < 65536)) (.left (decide ((-9223372036854775808 : Int) ≤ (↑i : Int) + 1 ∧ (↑i : Int) + 1 ≤ 9223372036854775807)) (.stop (Hd.again (again' vgT vgG vgM (Sum.inl { i := i, am := am, k := k, ha := hA })) [.data 1 n (by8 y), .top, .ptr 0 0, .top, .ptr 1 0, .ptr 2 0, .sint .i64 (n1 (sh y 46)), .sint .i64 ((↑i : Int) + 1), .top, .top, .top, .top, .top, .top, .top, .top, .top, .top, .top, .top, .top, .top, .top, .top, .top, .top, .top, .top, .top, .top, .top, .top, .top, .top, .top, .top, .top, .top, .top, .top, .top, .top, .top, .top, .top, .top, .top, .top, .top, .top, .top, .top, .top, .top, .top, .top, .top, .top, .top, .top, .top, .top, .top, .top, .top, .top, .top, .sint .i64 (↑i : Int), .sint .i64 (n1 (sh y 46)), .bool true, .bool true, .ptr 1 0, .ptr 1 0, .ptr 1 2, .bool false, .bool true, .bool true, .sint .i64 (↑i : Int), .sint .i64 ((↑i : Int) + 1), .ptr 2 11, .gsl 3 i, .ptr 1 0, .int .u64 0, .int .i64 0, .int .i64 (Int.negSucc 0), .slice 5 0 1 1 true, .gsl 6 (i + 1), .ptr 2 11, .top, .top, .top, .top, .top, .top, .top, .top, .top, .top, .top, .top, .top, .top, .top, .top, .top, .top, .top]) [0, 1, 2, 3, 5, 6] ([bk 0 lpZ, bk 1 [.data 1 n (by8 y), .sint .i64 ((47 : Int) + (↑i : Int)), .bool true], bk 2 [.sint .u8 (n1 (sh y 0) % 256), m2 y 1, .sint .u8 (n1 (sh y 11) % 256), q8 y 12, m2 y 20, .sint .i64 am, q8 y 30, q8 y 38, m2 y 5, m2 y 3, m4 y 7, .gsl 6 (i + 1)], (some Blk.dead, none), bk 5 [.int .i64 (Int.negSucc 0)], (some (Blk.seq 6 1 (i + 1) (glue i (pk y) fun (i : Nat) => List.take 1 (List.drop (i * 1) [.int .i64 (Int.negSucc 0)]))), some (1, i + 1, glue i (pk y) fun (i : Nat) => List.take 1 (List.drop (i * 1) [.int .i64 (Int.negSucc 0)])))]))))))) (by kernel_rfl) ?_
                refine hl (bc fun h16 => by omega) ?_
                refine hl (bc fun h16 => by omega) ?_
                refine hl (bc fun h16 => by exact h16 ⟨by omega, fun j hj => by obtain rfl : j = 0 := (by omega); exact ⟨rfl, rfl⟩⟩) ?_
                refine hl (bc fun h16 => by omega) ?_
                refine hl (bc fun h16 => by omega) ?_
                refine hold_stop (fun hd hb => ?_)
                refine ok_again hd [some 0, some 1, some 2] (.inr ⟨47 + (i : Int), n1 (sh y 46), (i : Int) + 1, ?_⟩) ?_ (fits3t (look_get hb 0 rfl rfl).1 (look_get hb 1 rfl rfl).1 (look_get hb 2 rfl rfl).1 (by decide) (vT_fit fit_n fit_n) lpZ_fit (rd_fit fit_n) brt_fit)
                · omega
                · show 0 < (n1 (sh y 46) - (i : Int)).toNat + 1
                  omega
               refine hzr (fun h15 => by omega) ?_
               refine hl (bc fun h15 => by exact h15 (all_by8 _ _)) ?_
               refine hold_stop (fun hd hb => ?_)
               refine ok_call hd (rputT (stY y am) i (pkI y) (by omega) (stY_rng y am)) (st_view (s := stY y am) (look_get hb 0 rfl rfl).2 (Nat.le_refl _) (fun j hj => rfl)) ?_
               rintro x G (⟨rfl, rfl, my⟩ | ⟨my, rfl, rfl⟩) <;> first | refine ⟨rfl, fun g hg => (by rcases List.mem_singleton.1 hg with rfl; exact fun _ _ => rfl), ?_⟩ | refine ⟨rfl, fun g hg => (by cases hg), ?_⟩
               ·
                refine ok_sk (.l (.l (.l (.r (.stop []))))) (S := .left (@decide (AllBytes n (by8 y)) pd) (.left (decide (bytesOf n (by8 y) = bytesOf n (by8 y))) (.left (@decide (1 = 1 ∧ n = n ∧ by8 y = by8 y) pd) (.right (decide ([] = bytesOf n (by8 y))) (.stop (Hd.leaf (.tuple [.agg lpZ, .int .i64 5])) [] ([])))))) (by kernel_rfl) ?_
                refine hl (bc fun h16 => by exact h16 (all_by8 _ _)) ?_
                refine hl (bc fun h16 => by exact h16 rfl) ?_
                refine hl (bc fun h16 => by exact h16 ⟨rfl, rfl, rfl⟩) ?_
                refine hzr (fun h16 => by (have h0 := congrArg List.length h16; rw [bytes_len] at h0; simp at h0; omega)) ?_
                refine hold_stop (fun hd hb => ?_)
                exact ok_leaf0 hd rfl (.inr ⟨no_st hA my (by omega), rfl, rfl⟩)
               refine ok_sk (.l (.l (.l (.l (.both (.stop [3]) (.stop [])))))) (S := .left (@decide (AllBytes n (by8 y)) pd) (.left (decide (bytesOf n (by8 y) = bytesOf n (by8 y))) (.left (@decide (1 = 1 ∧ n = n ∧ by8 y = by8 y) pd) (.left (@decide (47 + i ≤ 47 + i ∧ AllBytes (47 + i) (rowT (stY y am) i (pkI y))) pd) (.fork (decide (bytesOf (47 + i) (rowT (stY y am) i (pkI y)) = bytesOf n (by8 y))) (.stop (Hd.leaf (.tuple [.agg [.sint .u8 (n1 (sh y 0) % 256), .sint .i64 (n2 (sh y 1) - 1), .sint .u8 (n1 (sh y 11) % 256), .sint .u64 (n8 (sh y 12)), .sint .i64 (n2 (sh y 20) - 1), .sint .i64 am, .sint .u64 (n8 (sh y 30)), .sint .u64 (n8 (sh y 38)), .sint .i64 (n2 (sh y 5) - 1), .sint .i64 (n2 (sh y 3) - 1), .sint .i64 (n4 (sh y 7) - 1), .gsl 3 i], .int .i64 0])) [3] ([(some (Blk.seq 3 1 i (pk y)), some (1, i, pk y))])) (.stop (Hd.leaf (.tuple [.agg lpZ, .int .i64 5])) [] ([]))))))) (by kernel_rfl) ?_
               refine hl (bc fun h16 => by exact h16 (all_by8 _ _)) ?_
               refine hl (bc fun h16 => by exact h16 rfl) ?_
               refine hl (bc fun h16 => by exact h16 ⟨rfl, rfl, rfl⟩) ?_
               refine hl (bc fun h16 => by exact h16 ⟨Nat.le_refl _, all_rowT _ _ _ _⟩) ?_
               refine hold_forkD (fun h16 => ?_) (fun h16 => ?_)
               ·
                refine hold_stop (fun hd hb => ?_)
                obtain ⟨e1, e2, hs⟩ := is_st (n := n) hA my (by omega) (put_len (am := am) (by assumption))
                subst e1
                subst e2
                exact ok_leafG hd hb (y := .tuple [.agg ((stY y (n8 (sh y 22) - 1)).row (.gsl 0 (n1 (sh y 46)).toNat)), .int .i64 0]) (by simp [StI.row, stY, fitA, fitsA, nf]) (Nat.le_refl _) (fun j hj => ⟨rfl, rfl⟩) (.inl ⟨hs, rfl, rfl⟩)
               refine hold_stop (fun hd hb => ?_)
               exact ok_leaf0 hd rfl (.inr ⟨no_put hA my (by omega) (by assumption), rfl, rfl⟩)
              refine ok_sk (.both (.stop []) (.stop [])) (S := .fork (decide (i < c)) (.stop (Hd.leaf (.tuple [.agg lpZ, .int .i64 5])) [] ([])) (.stop (Hd.leaf (.tuple [.agg lpZ, .int .i64 5])) [] ([]))) (by kernel_rfl) ?_
              refine hold_forkD (fun h14 => ?_) (fun h14 => ?_)
              ·
               refine hold_stop (fun hd hb => ?_)
               exact ok_leaf0 hd rfl (.inr ⟨fun h => by have := h.1; omega, rfl, rfl⟩)
              refine hold_stop (fun hd hb => ?_)
              exact ok_leaf0 hd rfl (.inr ⟨fun h => by have := h.1; omega, rfl, rfl⟩)
             refine ok_sk (.stop [0, 1, 3]) (S := .stop (Hd.loop 42 [.data 1 n (by8 y), .tuple [], .ptr 0 0, .int .i64 0, .ptr 1 0, .ptr 3 0, .int .i64 0, .int .i64 0, .data 1 n (by8 y), .agg [.data 1 n (by8 y), .int .i64 0, .bool false], .ptr 1 0, .ptr 1 0, .sint .u64 (n1 (sh y 0)), .sint .u8 (n1 (sh y 0) % 256), .agg [.sint .u8 (n1 (sh y 0) % 256), .int .i64 0, .int .u8 0, .int .u64 0, .int .i64 0, .int .i64 0, .int .u64 0, .int .u64 0, .int .i64 0, .int .i64 0, .int .i64 0, .nilSlice], .ptr 1 0, .sint .u64 (n2 (sh y 1)), .sint .i64 (n2 (sh y 1)), m2 y 1, .ptr 3 1, .ptr 1 0, .sint .u64 (n2 (sh y 3)), .sint .i64 (n2 (sh y 3)), m2 y 3, .ptr 3 9, .ptr 1 0, .sint .u64 (n2 (sh y 5)), .sint .i64 (n2 (sh y 5)), m2 y 5, .ptr 3 8, .ptr 1 0, .sint .u64 (n4 (sh y 7)), .sint .i64 (n4 (sh y 7)), m4 y 7, .ptr 3 10, .ptr 1 0, .sint .u64 (n1 (sh y 11)), .sint .u8 (n1 (sh y 11) % 256), .ptr 3 2, .ptr 3 2, .ptr 1 0, q8 y 12, .ptr 3 2, .ptr 3 3, .ptr 1 0, .sint .u64 (n2 (sh y 20)), .sint .i64 (n2 (sh y 20)), m2 y 20, .ptr 3 2, .ptr 3 4, .ptr 1 0, q8 y 22, .sint .u64 (IntKind.u64.wrap (n8 (sh y 22) - 1)), .sint .i64 (IntKind.i64.wrap (IntKind.u64.wrap (n8 (sh y 22) - 1))), .ptr 3 2, .ptr 3 5, .ptr 1 0, q8 y 30, .ptr 3 2, .ptr 3 6, .ptr 1 0, q8 y 38, .ptr 3 2, .ptr 3 7, .ptr 1 0, .int .u64 0, .int .i64 0, .tuple [], .tuple [], .tuple [], .tuple [], .tuple [], .tuple [], .tuple [], .tuple [], .tuple [], .tuple [], .tuple [], .tuple [], .tuple [], .tuple [], .tuple [], .tuple [], .tuple [], .tuple [], .tuple [], .tuple [], .tuple [], .tuple [], .tuple [], .tuple [], .tuple [], .tuple [], .tuple [], .tuple [], .tuple [], .tuple [], .tuple [], .tuple [], .tuple [], .tuple [], .tuple [], .tuple [], .tuple [], .tuple [], .tuple [], .tuple []]) [0, 1, 3] ([bk 0 lpZ, bk 1 [.data 1 n (by8 y), .sint .i64 (46 : Int), .bool true], bk 3 [.sint .u8 (n1 (sh y 0) % 256), m2 y 1, .sint .u8 (n1 (sh y 11) % 256), q8 y 12, m2 y 20, .sint .i64 (IntKind.i64.wrap (IntKind.u64.wrap (n8 (sh y 22) - 1))), q8 y 30, q8 y 38, m2 y 5, m2 y 3, m4 y 7, .nilSlice]])) (by kernel_rfl) ?_
             refine hold_stop (fun hd hb => ?_)
             refine ok_loop hd (X := VS n y) vbT vbG (fun _ => 0) [some 0, some 1, some 3] ⟨_, 0, 0, ?_⟩ (fits3t (look_get hb 0 rfl rfl).1 (look_get hb 1 rfl rfl).1 (look_get hb 2 rfl rfl).1 (by decide) (vT_fit fit_i fit_i) lpZ_fit (rd_fit fit_n) brt_fit) ?_
             focus omega
             rintro ⟨a0, c, i, k⟩
             refine ok_sk (.both (.stop []) (.stop [])) (S := .fork (decide (i < c)) (.stop (Hd.leaf (.tuple [.agg lpZ, .int .i64 5])) [] ([])) (.stop (Hd.leaf (.tuple [.agg lpZ, .int .i64 5])) [] ([]))) (by kernel_rfl) ?_
             refine hold_forkD (fun h14 => ?_) (fun h14 => ?_)
             ·
              refine hold_stop (fun hd hb => ?_)
              exact ok_leaf0 hd rfl (.inr ⟨fun h => by have := h.1; omega, rfl, rfl⟩)
             refine hold_stop (fun hd hb => ?_)
             exact ok_leaf0 hd rfl (.inr ⟨fun h => by have := h.1; omega, rfl, rfl⟩)
            refine ok_sk (.stop [1]) (S := .stop (Hd.call 33 [.ptr 1 0, .int .i64 1]) [1] ([bk 1 [.data 1 n (by8 y), .sint .i64 (38 : Int), .bool true]])) (by kernel_rfl) ?_
            refine hold_stop (fun hd hb => ?_)
            refine rd_call hd (rb1 n y _ hn ?_) hb (by kernel_rfl) fit_n ?_
            focus omega
            rintro x G ⟨rfl, rfl⟩
            refine ok_sk (.stop [0, 1, 3]) (S := .stop (Hd.loop 42 [.data 1 n (by8 y), .tuple [], .ptr 0 0, .int .i64 0, .ptr 1 0, .ptr 3 0, .int .i64 0, .int .i64 0, .data 1 n (by8 y), .agg [.data 1 n (by8 y), .int .i64 0, .bool false], .ptr 1 0, .ptr 1 0, .sint .u64 (n1 (sh y 0)), .sint .u8 (n1 (sh y 0) % 256), .agg [.sint .u8 (n1 (sh y 0) % 256), .int .i64 0, .int .u8 0, .int .u64 0, .int .i64 0, .int .i64 0, .int .u64 0, .int .u64 0, .int .i64 0, .int .i64 0, .int .i64 0, .nilSlice], .ptr 1 0, .sint .u64 (n2 (sh y 1)), .sint .i64 (n2 (sh y 1)), m2 y 1, .ptr 3 1, .ptr 1 0, .sint .u64 (n2 (sh y 3)), .sint .i64 (n2 (sh y 3)), m2 y 3, .ptr 3 9, .ptr 1 0, .sint .u64 (n2 (sh y 5)), .sint .i64 (n2 (sh y 5)), m2 y 5, .ptr 3 8, .ptr 1 0, .sint .u64 (n4 (sh y 7)), .sint .i64 (n4 (sh y 7)), m4 y 7, .ptr 3 10, .ptr 1 0, .sint .u64 (n1 (sh y 11)), .sint .u8 (n1 (sh y 11) % 256), .ptr 3 2, .ptr 3 2, .ptr 1 0, q8 y 12, .ptr 3 2, .ptr 3 3, .ptr 1 0, .sint .u64 (n2 (sh y 20)), .sint .i64 (n2 (sh y 20)), m2 y 20, .ptr 3 2, .ptr 3 4, .ptr 1 0, q8 y 22, .sint .u64 (IntKind.u64.wrap (n8 (sh y 22) - 1)), .sint .i64 (IntKind.i64.wrap (IntKind.u64.wrap (n8 (sh y 22) - 1))), .ptr 3 2, .ptr 3 5, .ptr 1 0, q8 y 30, .ptr 3 2, .ptr 3 6, .ptr 1 0, .int .u64 0, .ptr 3 2, .ptr 3 7, .ptr 1 0, .int .u64 0, .int .i64 0, .tuple [], .tuple [], .tuple [], .tuple [], .tuple [], .tuple [], .tuple [], .tuple [], .tuple [], .tuple [], .tuple [], .tuple [], .tuple [], .tuple [], .tuple [], .tuple [], .tuple [], .tuple [], .tuple [], .tuple [], .tuple [], .tuple [], .tuple [], .tuple [], .tuple [], .tuple [], .tuple [], .tuple [], .tuple [], .tuple [], .tuple [], .tuple [], .tuple [], .tuple [], .tuple [], .tuple [], .tuple [], .tuple [], .tuple [], .tuple []]) [0, 1, 3] ([bk 0 lpZ, bk 1 [.data 1 n (by8 y), .sint .i64 (38 : Int), .bool true], bk 3 [.sint .u8 (n1 (sh y 0) % 256), m2 y 1, .sint .u8 (n1 (sh y 11) % 256), q8 y 12, m2 y 20, .sint .i64 (IntKind.i64.wrap (IntKind.u64.wrap (n8 (sh y 22) - 1))), q8 y 30, .int .u64 0, m2 y 5, m2 y 3, m4 y 7, .nilSlice]])) (by kernel_rfl) ?_
            refine hold_stop (fun hd hb => ?_)
            refine ok_loop hd (X := VS n y) vbT vbG (fun _ => 0) [some 0, some 1, some 3] ⟨_, 0, 0, ?_⟩ (fits3t (look_get hb 0 rfl rfl).1 (look_get hb 1 rfl rfl).1 (look_get hb 2 rfl rfl).1 (by decide) (vT_fit fit_i fit_i) lpZ_fit (rd_fit fit_n) brt_fit) ?_
            focus omega
            rintro ⟨a0, c, i, k⟩
            refine ok_sk (.both (.stop []) (.stop [])) (S := .fork (decide (i < c)) (.stop (Hd.leaf (.tuple [.agg lpZ, .int .i64 5])) [] ([])) (.stop (Hd.leaf (.tuple [.agg lpZ, .int .i64 5])) [] ([]))) (by kernel_rfl) ?_
            refine hold_forkD (fun h14 => ?_) (fun h14 => ?_)
            ·
             refine hold_stop (fun hd hb => ?_)
             exact ok_leaf0 hd rfl (.inr ⟨fun h => by have := h.1; omega, rfl, rfl⟩)
            refine hold_stop (fun hd hb => ?_)
            exact ok_leaf0 hd rfl (.inr ⟨fun h => by have := h.1; omega, rfl, rfl⟩)
           refine ok_sk (.stop [1]) (S := .stop (Hd.call 33 [.ptr 1 0, .int .i64 8]) [1] ([bk 1 [.data 1 n (by8 y), .sint .i64 (30 : Int), .bool true]])) (by kernel_rfl) ?_
           refine hold_stop (fun hd hb => ?_)
           refine rd_call hd (rb8 n y _ hn ?_) hb (by kernel_rfl) fit_n ?_
           focus omega
           rintro x G ⟨rfl, rfl⟩
           refine ok_sk (.stop [1]) (S := .stop (Hd.call 33 [.ptr 1 0, .int .i64 1]) [1] ([bk 1 [.data 1 n (by8 y), .sint .i64 (30 : Int), .bool true]])) (by kernel_rfl) ?_
           refine hold_stop (fun hd hb => ?_)
           refine rd_call hd (rb1 n y _ hn ?_) hb (by kernel_rfl) fit_n ?_
           focus omega
           rintro x G ⟨rfl, rfl⟩
           refine ok_sk (.stop [0, 1, 3]) (S := .stop (Hd.loop 42 [.data 1 n (by8 y), .tuple [], .ptr 0 0, .int .i64 0, .ptr 1 0, .ptr 3 0, .int .i64 0, .int .i64 0, .data 1 n (by8 y), .agg [.data 1 n (by8 y), .int .i64 0, .bool false], .ptr 1 0, .ptr 1 0, .sint .u64 (n1 (sh y 0)), .sint .u8 (n1 (sh y 0) % 256), .agg [.sint .u8 (n1 (sh y 0) % 256), .int .i64 0, .int .u8 0, .int .u64 0, .int .i64 0, .int .i64 0, .int .u64 0, .int .u64 0, .int .i64 0, .int .i64 0, .int .i64 0, .nilSlice], .ptr 1 0, .sint .u64 (n2 (sh y 1)), .sint .i64 (n2 (sh y 1)), m2 y 1, .ptr 3 1, .ptr 1 0, .sint .u64 (n2 (sh y 3)), .sint .i64 (n2 (sh y 3)), m2 y 3, .ptr 3 9, .ptr 1 0, .sint .u64 (n2 (sh y 5)), .sint .i64 (n2 (sh y 5)), m2 y 5, .ptr 3 8, .ptr 1 0, .sint .u64 (n4 (sh y 7)), .sint .i64 (n4 (sh y 7)), m4 y 7, .ptr 3 10, .ptr 1 0, .sint .u64 (n1 (sh y 11)), .sint .u8 (n1 (sh y 11) % 256), .ptr 3 2, .ptr 3 2, .ptr 1 0, q8 y 12, .ptr 3 2, .ptr 3 3, .ptr 1 0, .sint .u64 (n2 (sh y 20)), .sint .i64 (n2 (sh y 20)), m2 y 20, .ptr 3 2, .ptr 3 4, .ptr 1 0, q8 y 22, .sint .u64 (IntKind.u64.wrap (n8 (sh y 22) - 1)), .sint .i64 (IntKind.i64.wrap (IntKind.u64.wrap (n8 (sh y 22) - 1))), .ptr 3 2, .ptr 3 5, .ptr 1 0, .int .u64 0, .ptr 3 2, .ptr 3 6, .ptr 1 0, .int .u64 0, .ptr 3 2, .ptr 3 7, .ptr 1 0, .int .u64 0, .int .i64 0, .tuple [], .tuple [], .tuple [], .tuple [], .tuple [], .tuple [], .tuple [], .tuple [], .tuple [], .tuple [], .tuple [], .tuple [], .tuple [], .tuple [], .tuple [], .tuple [], .tuple [], .tuple [], .tuple [], .tuple [], .tuple [], .tuple [], .tuple [], .tuple [], .tuple [], .tuple [], .tuple [], .tuple [], .tuple [], .tuple [], .tuple [], .tuple [], .tuple [], .tuple [], .tuple [], .tuple [], .tuple [], .tuple [], .tuple [], .tuple []]) [0, 1, 3] ([bk 0 lpZ, bk 1 [.data 1 n (by8 y), .sint .i64 (30 : Int), .bool true], bk 3 [.sint .u8 (n1 (sh y 0) % 256), m2 y 1, .sint .u8 (n1 (sh y 11) % 256), q8 y 12, m2 y 20, .sint .i64 (IntKind.i64.wrap (IntKind.u64.wrap (n8 (sh y 22) - 1))), .int .u64 0, .int .u64 0, m2 y 5, m2 y 3, m4 y 7, .nilSlice]])) (by kernel_rfl) ?_
           refine hold_stop (fun hd hb => ?_)
           refine ok_loop hd (X := VS n y) vbT vbG (fun _ => 0) [some 0, some 1, some 3] ⟨_, 0, 0, ?_⟩ (fits3t (look_get hb 0 rfl rfl).1 (look_get hb 1 rfl rfl).1 (look_get hb 2 rfl rfl).1 (by decide) (vT_fit fit_i fit_i) lpZ_fit (rd_fit fit_n) brt_fit) ?_
           focus omega
           rintro ⟨a0, c, i, k⟩
           refine ok_sk (.both (.stop []) (.stop [])) (S := .fork (decide (i < c)) (.stop (Hd.leaf (.tuple [.agg lpZ, .int .i64 5])) [] ([])) (.stop (Hd.leaf (.tuple [.agg lpZ, .int .i64 5])) [] ([]))) (by kernel_rfl) ?_
           refine hold_forkD (fun h14 => ?_) (fun h14 => ?_)
           ·
            refine hold_stop (fun hd hb => ?_)
            exact ok_leaf0 hd rfl (.inr ⟨fun h => by have := h.1; omega, rfl, rfl⟩)
           refine hold_stop (fun hd hb => ?_)
           exact ok_leaf0 hd rfl (.inr ⟨fun h => by have := h.1; omega, rfl, rfl⟩)
          refine ok_sk (.stop [1]) (S := .stop (Hd.call 33 [.ptr 1 0, .int .i64 8]) [1] ([bk 1 [.data 1 n (by8 y), .sint .i64 (22 : Int), .bool true]])) (by kernel_rfl) ?_
          refine hold_stop (fun hd hb => ?_)
          refine rd_call hd (rb8 n y _ hn ?_) hb (by kernel_rfl) fit_n ?_
          focus omega
          rintro x G ⟨rfl, rfl⟩
          refine ok_sk (.stop [1]) (S := .stop (Hd.call 33 [.ptr 1 0, .int .i64 8]) [1] ([bk 1 [.data 1 n (by8 y), .sint .i64 (22 : Int), .bool true]])) (by kernel_rfl) ?_
          refine hold_stop (fun hd hb => ?_)
          refine rd_call hd (rb8 n y _ hn ?_) hb (by kernel_rfl) fit_n ?_
          focus omega
          rintro x G ⟨rfl, rfl⟩
          refine ok_sk (.stop [1]) (S := .stop (Hd.call 33 [.ptr 1 0, .int .i64 1]) [1] ([bk 1 [.data 1 n (by8 y), .sint .i64 (22 : Int), .bool true]])) (by kernel_rfl) ?_
          refine hold_stop (fun hd hb => ?_)
          refine rd_call hd (rb1 n y _ hn ?_) hb (by kernel_rfl) fit_n ?_
          focus omega
          rintro x G ⟨rfl, rfl⟩
          refine ok_sk (.stop [0, 1, 3]) (S := .stop (Hd.loop 42 [.data 1 n (by8 y), .tuple [], .ptr 0 0, .int .i64 0, .ptr 1 0, .ptr 3 0, .int .i64 0, .int .i64 0, .data 1 n (by8 y), .agg [.data 1 n (by8 y), .int .i64 0, .bool false], .ptr 1 0, .ptr 1 0, .sint .u64 (n1 (sh y 0)), .sint .u8 (n1 (sh y 0) % 256), .agg [.sint .u8 (n1 (sh y 0) % 256), .int .i64 0, .int .u8 0, .int .u64 0, .int .i64 0, .int .i64 0, .int .u64 0, .int .u64 0, .int .i64 0, .int .i64 0, .int .i64 0, .nilSlice], .ptr 1 0, .sint .u64 (n2 (sh y 1)), .sint .i64 (n2 (sh y 1)), m2 y 1, .ptr 3 1, .ptr 1 0, .sint .u64 (n2 (sh y 3)), .sint .i64 (n2 (sh y 3)), m2 y 3, .ptr 3 9, .ptr 1 0, .sint .u64 (n2 (sh y 5)), .sint .i64 (n2 (sh y 5)), m2 y 5, .ptr 3 8, .ptr 1 0, .sint .u64 (n4 (sh y 7)), .sint .i64 (n4 (sh y 7)), m4 y 7, .ptr 3 10, .ptr 1 0, .sint .u64 (n1 (sh y 11)), .sint .u8 (n1 (sh y 11) % 256), .ptr 3 2, .ptr 3 2, .ptr 1 0, q8 y 12, .ptr 3 2, .ptr 3 3, .ptr 1 0, .sint .u64 (n2 (sh y 20)), .sint .i64 (n2 (sh y 20)), m2 y 20, .ptr 3 2, .ptr 3 4, .ptr 1 0, .int .u64 0, .int .u64 18446744073709551615, .int .i64 (Int.negSucc 0), .ptr 3 2, .ptr 3 5, .ptr 1 0, .int .u64 0, .ptr 3 2, .ptr 3 6, .ptr 1 0, .int .u64 0, .ptr 3 2, .ptr 3 7, .ptr 1 0, .int .u64 0, .int .i64 0, .tuple [], .tuple [], .tuple [], .tuple [], .tuple [], .tuple [], .tuple [], .tuple [], .tuple [], .tuple [], .tuple [], .tuple [], .tuple [], .tuple [], .tuple [], .tuple [], .tuple [], .tuple [], .tuple [], .tuple [], .tuple [], .tuple [], .tuple [], .tuple [], .tuple [], .tuple [], .tuple [], .tuple [], .tuple [], .tuple [], .tuple [], .tuple [], .tuple [], .tuple [], .tuple [], .tuple [], .tuple [], .tuple [], .tuple [], .tuple []]) [0, 1, 3] ([bk 0 lpZ, bk 1 [.data 1 n (by8 y), .sint .i64 (22 : Int), .bool true], bk 3 [.sint .u8 (n1 (sh y 0) % 256), m2 y 1, .sint .u8 (n1 (sh y 11) % 256), q8 y 12, m2 y 20, .int .i64 (Int.negSucc 0), .int .u64 0, .int .u64 0, m2 y 5, m2 y 3, m4 y 7, .nilSlice]])) (by kernel_rfl) ?_
          refine hold_stop (fun hd hb => ?_)
          refine ok_loop hd (X := VS n y) vbT vbG (fun _ => 0) [some 0, some 1, some 3] ⟨_, 0, 0, ?_⟩ (fits3t (look_get hb 0 rfl rfl).1 (look_get hb 1 rfl rfl).1 (look_get hb 2 rfl rfl).1 (by decide) (vT_fit fit_i fit_i) lpZ_fit (rd_fit fit_n) brt_fit) ?_
          focus omega
          rintro ⟨a0, c, i, k⟩
          refine ok_sk (.both (.stop []) (.stop [])) (S := .fork (decide (i < c)) (.stop (Hd.leaf (.tuple [.agg lpZ, .int .i64 5])) [] ([])) (.stop (Hd.leaf (.tuple [.agg lpZ, .int .i64 5])) [] ([]))) (by kernel_rfl) ?_
          refine hold_forkD (fun h13 => ?_) (fun h13 => ?_)
          ·
           refine hold_stop (fun hd hb => ?_)
           exact ok_leaf0 hd rfl (.inr ⟨fun h => by have := h.1; omega, rfl, rfl⟩)
          refine hold_stop (fun hd hb => ?_)
          exact ok_leaf0 hd rfl (.inr ⟨fun h => by have := h.1; omega, rfl, rfl⟩)
         refine ok_sk (.stop [1]) (S := .stop (Hd.call 33 [.ptr 1 0, .int .i64 8]) [1] ([bk 1 [.data 1 n (by8 y), .sint .i64 (20 : Int), .bool true]])) (by kernel_rfl) ?_
         refine hold_stop (fun hd hb => ?_)
         refine rd_call hd (rb8 n y _ hn ?_) hb (by kernel_rfl) fit_n ?_
         focus omega
         rintro x G ⟨rfl, rfl⟩
         refine ok_sk (.stop [1]) (S := .stop (Hd.call 33 [.ptr 1 0, .int .i64 8]) [1] ([bk 1 [.data 1 n (by8 y), .sint .i64 (20 : Int), .bool true]])) (by kernel_rfl) ?_
         refine hold_stop (fun hd hb => ?_)
         refine rd_call hd (rb8 n y _ hn ?_) hb (by kernel_rfl) fit_n ?_
         focus omega
         rintro x G ⟨rfl, rfl⟩
         refine ok_sk (.stop [1]) (S := .stop (Hd.call 33 [.ptr 1 0, .int .i64 8]) [1] ([bk 1 [.data 1 n (by8 y), .sint .i64 (20 : Int), .bool true]])) (by kernel_rfl) ?_
         refine hold_stop (fun hd hb => ?_)
         refine rd_call hd (rb8 n y _ hn ?_) hb (by kernel_rfl) fit_n ?_
         focus omega
         rintro x G ⟨rfl, rfl⟩
         refine ok_sk (.stop [1]) (S := .stop (Hd.call 33 [.ptr 1 0, .int .i64 1]) [1] ([bk 1 [.data 1 n (by8 y), .sint .i64 (20 : Int), .bool true]])) (by kernel_rfl) ?_
         refine hold_stop (fun hd hb => ?_)
         refine rd_call hd (rb1 n y _ hn ?_) hb (by kernel_rfl) fit_n ?_
         focus omega
         rintro x G ⟨rfl, rfl⟩
         refine ok_sk (.stop [0, 1, 3]) (S := .stop (Hd.loop 42 [.data 1 n (by8 y), .tuple [], .ptr 0 0, .int .i64 0, .ptr 1 0, .ptr 3 0, .int .i64 0, .int .i64 0, .data 1 n (by8 y), .agg [.data 1 n (by8 y), .int .i64 0, .bool false], .ptr 1 0, .ptr 1 0, .sint .u64 (n1 (sh y 0)), .sint .u8 (n1 (sh y 0) % 256), .agg [.sint .u8 (n1 (sh y 0) % 256), .int .i64 0, .int .u8 0, .int .u64 0, .int .i64 0, .int .i64 0, .int .u64 0, .int .u64 0, .int .i64 0, .int .i64 0, .int .i64 0, .nilSlice], .ptr 1 0, .sint .u64 (n2 (sh y 1)), .sint .i64 (n2 (sh y 1)), m2 y 1, .ptr 3 1, .ptr 1 0, .sint .u64 (n2 (sh y 3)), .sint .i64 (n2 (sh y 3)), m2 y 3, .ptr 3 9, .ptr 1 0, .sint .u64 (n2 (sh y 5)), .sint .i64 (n2 (sh y 5)), m2 y 5, .ptr 3 8, .ptr 1 0, .sint .u64 (n4 (sh y 7)), .sint .i64 (n4 (sh y 7)), m4 y 7, .ptr 3 10, .ptr 1 0, .sint .u64 (n1 (sh y 11)), .sint .u8 (n1 (sh y 11) % 256), .ptr 3 2, .ptr 3 2, .ptr 1 0, q8 y 12, .ptr 3 2, .ptr 3 3, .ptr 1 0, .int .u64 0, .int .i64 0, .int .i64 (Int.negSucc 0), .ptr 3 2, .ptr 3 4, .ptr 1 0, .int .u64 0, .int .u64 18446744073709551615, .int .i64 (Int.negSucc 0), .ptr 3 2, .ptr 3 5, .ptr 1 0, .int .u64 0, .ptr 3 2, .ptr 3 6, .ptr 1 0, .int .u64 0, .ptr 3 2, .ptr 3 7, .ptr 1 0, .int .u64 0, .int .i64 0, .tuple [], .tuple [], .tuple [], .tuple [], .tuple [], .tuple [], .tuple [], .tuple [], .tuple [], .tuple [], .tuple [], .tuple [], .tuple [], .tuple [], .tuple [], .tuple [], .tuple [], .tuple [], .tuple [], .tuple [], .tuple [], .tuple [], .tuple [], .tuple [], .tuple [], .tuple [], .tuple [], .tuple [], .tuple [], .tuple [], .tuple [], .tuple [], .tuple [], .tuple [], .tuple [], .tuple [], .tuple [], .tuple [], .tuple [], .tuple []]) [0, 1, 3] ([bk 0 lpZ, bk 1 [.data 1 n (by8 y), .sint .i64 (20 : Int), .bool true], bk 3 [.sint .u8 (n1 (sh y 0) % 256), m2 y 1, .sint .u8 (n1 (sh y 11) % 256), q8 y 12, .int .i64 (Int.negSucc 0), .int .i64 (Int.negSucc 0), .int .u64 0, .int .u64 0, m2 y 5, m2 y 3, m4 y 7, .nilSlice]])) (by kernel_rfl) ?_
         refine hold_stop (fun hd hb => ?_)
         refine ok_loop hd (X := VS n y) vbT vbG (fun _ => 0) [some 0, some 1, some 3] ⟨_, 0, 0, ?_⟩ (fits3t (look_get hb 0 rfl rfl).1 (look_get hb 1 rfl rfl).1 (look_get hb 2 rfl rfl).1 (by decide) (vT_fit fit_i fit_i) lpZ_fit (rd_fit fit_n) brt_fit) ?_
         focus omega
         rintro ⟨a0, c, i, k⟩
         refine ok_sk (.both (.stop []) (.stop [])) (S := .fork (decide (i < c)) (.stop (Hd.leaf (.tuple [.agg lpZ, .int .i64 5])) [] ([])) (.stop (Hd.leaf (.tuple [.agg lpZ, .int .i64 5])) [] ([]))) (by kernel_rfl) ?_
         refine hold_forkD (fun h13 => ?_) (fun h13 => ?_)
         ·
          refine hold_stop (fun hd hb => ?_)
          exact ok_leaf0 hd rfl (.inr ⟨fun h => by have := h.1; omega, rfl, rfl⟩)
         refine hold_stop (fun hd hb => ?_)
         exact ok_leaf0 hd rfl (.inr ⟨fun h => by have := h.1; omega, rfl, rfl⟩)
        refine ok_sk (.stop [1]) (S := .stop (Hd.call 33 [.ptr 1 0, .int .i64 2]) [1] ([bk 1 [.data 1 n (by8 y), .sint .i64 (12 : Int), .bool true]])) (by kernel_rfl) ?_
        refine hold_stop (fun hd hb => ?_)
        refine rd_call hd (rb2 n y _ hn ?_) hb (by kernel_rfl) fit_n ?_
        focus omega
        rintro x G ⟨rfl, rfl⟩
        refine ok_sk (.stop [1]) (S := .stop (Hd.call 33 [.ptr 1 0, .int .i64 8]) [1] ([bk 1 [.data 1 n (by8 y), .sint .i64 (12 : Int), .bool true]])) (by kernel_rfl) ?_
        refine hold_stop (fun hd hb => ?_)
        refine rd_call hd (rb8 n y _ hn ?_) hb (by kernel_rfl) fit_n ?_
        focus omega
        rintro x G ⟨rfl, rfl⟩
        refine ok_sk (.stop [1]) (S := .stop (Hd.call 33 [.ptr 1 0, .int .i64 8]) [1] ([bk 1 [.data 1 n (by8 y), .sint .i64 (12 : Int), .bool true]])) (by kernel_rfl) ?_
        refine hold_stop (fun hd hb => ?_)
        refine rd_call hd (rb8 n y _ hn ?_) hb (by kernel_rfl) fit_n ?_
        focus omega
        rintro x G ⟨rfl, rfl⟩
        refine ok_sk (.stop [1]) (S := .stop (Hd.call 33 [.ptr 1 0, .int .i64 8]) [1] ([bk 1 [.data 1 n (by8 y), .sint .i64 (12 : Int), .bool true]])) (by kernel_rfl) ?_
        refine hold_stop (fun hd hb => ?_)
        refine rd_call hd (rb8 n y _ hn ?_) hb (by kernel_rfl) fit_n ?_
        focus omega
        rintro x G ⟨rfl, rfl⟩
        refine ok_sk (.stop [1]) (S := .stop (Hd.call 33 [.ptr 1 0, .int .i64 1]) [1] ([bk 1 [.data 1 n (by8 y), .sint .i64 (12 : Int), .bool true]])) (by kernel_rfl) ?_
        refine hold_stop (fun hd hb => ?_)
        refine rd_call hd (rb1 n y _ hn ?_) hb (by kernel_rfl) fit_n ?_
        focus omega
        rintro x G ⟨rfl, rfl⟩
        refine ok_sk (.stop [0, 1, 3]) (S := .stop (Hd.loop 42 [.data 1 n (by8 y), .tuple [], .ptr 0 0, .int .i64 0, .ptr 1 0, .ptr 3 0, .int .i64 0, .int .i64 0, .data 1 n (by8 y), .agg [.data 1 n (by8 y), .int .i64 0, .bool false], .ptr 1 0, .ptr 1 0, .sint .u64 (n1 (sh y 0)), .sint .u8 (n1 (sh y 0) % 256), .agg [.sint .u8 (n1 (sh y 0) % 256), .int .i64 0, .int .u8 0, .int .u64 0, .int .i64 0, .int .i64 0, .int .u64 0, .int .u64 0, .int .i64 0, .int .i64 0, .int .i64 0, .nilSlice], .ptr 1 0, .sint .u64 (n2 (sh y 1)), .sint .i64 (n2 (sh y 1)), m2 y 1, .ptr 3 1, .ptr 1 0, .sint .u64 (n2 (sh y 3)), .sint .i64 (n2 (sh y 3)), m2 y 3, .ptr 3 9, .ptr 1 0, .sint .u64 (n2 (sh y 5)), .sint .i64 (n2 (sh y 5)), m2 y 5, .ptr 3 8, .ptr 1 0, .sint .u64 (n4 (sh y 7)), .sint .i64 (n4 (sh y 7)), m4 y 7, .ptr 3 10, .ptr 1 0, .sint .u64 (n1 (sh y 11)), .sint .u8 (n1 (sh y 11) % 256), .ptr 3 2, .ptr 3 2, .ptr 1 0, .int .u64 0, .ptr 3 2, .ptr 3 3, .ptr 1 0, .int .u64 0, .int .i64 0, .int .i64 (Int.negSucc 0), .ptr 3 2, .ptr 3 4, .ptr 1 0, .int .u64 0, .int .u64 18446744073709551615, .int .i64 (Int.negSucc 0), .ptr 3 2, .ptr 3 5, .ptr 1 0, .int .u64 0, .ptr 3 2, .ptr 3 6, .ptr 1 0, .int .u64 0, .ptr 3 2, .ptr 3 7, .ptr 1 0, .int .u64 0, .int .i64 0, .tuple [], .tuple [], .tuple [], .tuple [], .tuple [], .tuple [], .tuple [], .tuple [], .tuple [], .tuple [], .tuple [], .tuple [], .tuple [], .tuple [], .tuple [], .tuple [], .tuple [], .tuple [], .tuple [], .tuple [], .tuple [], .tuple [], .tuple [], .tuple [], .tuple [], .tuple [], .tuple [], .tuple [], .tuple [], .tuple [], .tuple [], .tuple [], .tuple [], .tuple [], .tuple [], .tuple [], .tuple [], .tuple [], .tuple [], .tuple []]) [0, 1, 3] ([bk 0 lpZ, bk 1 [.data 1 n (by8 y), .sint .i64 (12 : Int), .bool true], bk 3 [.sint .u8 (n1 (sh y 0) % 256), m2 y 1, .sint .u8 (n1 (sh y 11) % 256), .int .u64 0, .int .i64 (Int.negSucc 0), .int .i64 (Int.negSucc 0), .int .u64 0, .int .u64 0, m2 y 5, m2 y 3, m4 y 7, .nilSlice]])) (by kernel_rfl) ?_
        refine hold_stop (fun hd hb => ?_)
        refine ok_loop hd (X := VS n y) vbT vbG (fun _ => 0) [some 0, some 1, some 3] ⟨_, 0, 0, ?_⟩ (fits3t (look_get hb 0 rfl rfl).1 (look_get hb 1 rfl rfl).1 (look_get hb 2 rfl rfl).1 (by decide) (vT_fit fit_i fit_i) lpZ_fit (rd_fit fit_n) brt_fit) ?_
        focus omega
        rintro ⟨a0, c, i, k⟩
        refine ok_sk (.both (.stop []) (.stop [])) (S := .fork (decide (i < c)) (.stop (Hd.leaf (.tuple [.agg lpZ, .int .i64 5])) [] ([])) (.stop (Hd.leaf (.tuple [.agg lpZ, .int .i64 5])) [] ([]))) (by kernel_rfl) ?_
        refine hold_forkD (fun h13 => ?_) (fun h13 => ?_)
        ·
         refine hold_stop (fun hd hb => ?_)
         exact ok_leaf0 hd rfl (.inr ⟨fun h => by have := h.1; omega, rfl, rfl⟩)
        refine hold_stop (fun hd hb => ?_)
        exact ok_leaf0 hd rfl (.inr ⟨fun h => by have := h.1; omega, rfl, rfl⟩)
       refine ok_sk (.stop [1]) (S := .stop (Hd.call 33 [.ptr 1 0, .int .i64 8]) [1] ([bk 1 [.data 1 n (by8 y), .sint .i64 (11 : Int), .bool true]])) (by kernel_rfl) ?_
       refine hold_stop (fun hd hb => ?_)
       refine rd_call hd (rb8 n y _ hn ?_) hb (by kernel_rfl) fit_n ?_
       focus omega
       rintro x G ⟨rfl, rfl⟩
       refine ok_sk (.stop [1]) (S := .stop (Hd.call 33 [.ptr 1 0, .int .i64 2]) [1] ([bk 1 [.data 1 n (by8 y), .sint .i64 (11 : Int), .bool true]])) (by kernel_rfl) ?_
       refine hold_stop (fun hd hb => ?_)
       refine rd_call hd (rb2 n y _ hn ?_) hb (by kernel_rfl) fit_n ?_
       focus omega
       rintro x G ⟨rfl, rfl⟩
       refine ok_sk (.stop [1]) (S := .stop (Hd.call 33 [.ptr 1 0, .int .i64 8]) [1] ([bk 1 [.data 1 n (by8 y), .sint .i64 (11 : Int), .bool true]])) (by kernel_rfl) ?_
       refine hold_stop (fun hd hb => ?_)
       refine rd_call hd (rb8 n y _ hn ?_) hb (by kernel_rfl) fit_n ?_
       focus omega
       rintro x G ⟨rfl, rfl⟩
       refine ok_sk (.stop [1]) (S := .stop (Hd.call 33 [.ptr 1 0, .int .i64 8]) [1] ([bk 1 [.data 1 n (by8 y), .sint .i64 (11 : Int), .bool true]])) (by kernel_rfl) ?_
       refine hold_stop (fun hd hb => ?_)
       refine rd_call hd (rb8 n y _ hn ?_) hb (by kernel_rfl) fit_n ?_
       focus omega
       rintro x G ⟨rfl, rfl⟩
       refine ok_sk (.stop [1]) (S := .stop (Hd.call 33 [.ptr 1 0, .int .i64 8]) [1] ([bk 1 [.data 1 n (by8 y), .sint .i64 (11 : Int), .bool true]])) (by kernel_rfl) ?_
       refine hold_stop (fun hd hb => ?_)
       refine rd_call hd (rb8 n y _ hn ?_) hb (by kernel_rfl) fit_n ?_
       focus omega
       rintro x G ⟨rfl, rfl⟩
       refine ok_sk (.stop [1]) (S := .stop (Hd.call 33 [.ptr 1 0, .int .i64 1]) [1] ([bk 1 [.data 1 n (by8 y), .sint .i64 (11 : Int), .bool true]])) (by kernel_rfl) ?_
       refine hold_stop (fun hd hb => ?_)
       refine rd_call hd (rb1 n y _ hn ?_) hb (by kernel_rfl) fit_n ?_
       focus omega
       rintro x G ⟨rfl, rfl⟩
       refine ok_sk (.stop [0, 1, 3]) (S := .stop (Hd.loop 42 [.data 1 n (by8 y), .tuple [], .ptr 0 0, .int .i64 0, .ptr 1 0, .ptr 3 0, .int .i64 0, .int .i64 0, .data 1 n (by8 y), .agg [.data 1 n (by8 y), .int .i64 0, .bool false], .ptr 1 0, .ptr 1 0, .sint .u64 (n1 (sh y 0)), .sint .u8 (n1 (sh y 0) % 256), .agg [.sint .u8 (n1 (sh y 0) % 256), .int .i64 0, .int .u8 0, .int .u64 0, .int .i64 0, .int .i64 0, .int .u64 0, .int .u64 0, .int .i64 0, .int .i64 0, .int .i64 0, .nilSlice], .ptr 1 0, .sint .u64 (n2 (sh y 1)), .sint .i64 (n2 (sh y 1)), m2 y 1, .ptr 3 1, .ptr 1 0, .sint .u64 (n2 (sh y 3)), .sint .i64 (n2 (sh y 3)), m2 y 3, .ptr 3 9, .ptr 1 0, .sint .u64 (n2 (sh y 5)), .sint .i64 (n2 (sh y 5)), m2 y 5, .ptr 3 8, .ptr 1 0, .sint .u64 (n4 (sh y 7)), .sint .i64 (n4 (sh y 7)), m4 y 7, .ptr 3 10, .ptr 1 0, .int .u64 0, .int .u8 0, .ptr 3 2, .ptr 3 2, .ptr 1 0, .int .u64 0, .ptr 3 2, .ptr 3 3, .ptr 1 0, .int .u64 0, .int .i64 0, .int .i64 (Int.negSucc 0), .ptr 3 2, .ptr 3 4, .ptr 1 0, .int .u64 0, .int .u64 18446744073709551615, .int .i64 (Int.negSucc 0), .ptr 3 2, .ptr 3 5, .ptr 1 0, .int .u64 0, .ptr 3 2, .ptr 3 6, .ptr 1 0, .int .u64 0, .ptr 3 2, .ptr 3 7, .ptr 1 0, .int .u64 0, .int .i64 0, .tuple [], .tuple [], .tuple [], .tuple [], .tuple [], .tuple [], .tuple [], .tuple [], .tuple [], .tuple [], .tuple [], .tuple [], .tuple [], .tuple [], .tuple [], .tuple [], .tuple [], .tuple [], .tuple [], .tuple [], .tuple [], .tuple [], .tuple [], .tuple [], .tuple [], .tuple [], .tuple [], .tuple [], .tuple [], .tuple [], .tuple [], .tuple [], .tuple [], .tuple [], .tuple [], .tuple [], .tuple [], .tuple [], .tuple [], .tuple []]) [0, 1, 3] ([bk 0 lpZ, bk 1 [.data 1 n (by8 y), .sint .i64 (11 : Int), .bool true], bk 3 [.sint .u8 (n1 (sh y 0) % 256), m2 y 1, .int .u8 0, .int .u64 0, .int .i64 (Int.negSucc 0), .int .i64 (Int.negSucc 0), .int .u64 0, .int .u64 0, m2 y 5, m2 y 3, m4 y 7, .nilSlice]])) (by kernel_rfl) ?_
       refine hold_stop (fun hd hb => ?_)
       refine ok_loop hd (X := VS n y) vbT vbG (fun _ => 0) [some 0, some 1, some 3] ⟨_, 0, 0, ?_⟩ (fits3t (look_get hb 0 rfl rfl).1 (look_get hb 1 rfl rfl).1 (look_get hb 2 rfl rfl).1 (by decide) (vT_fit fit_i fit_i) lpZ_fit (rd_fit fit_n) brt_fit) ?_
       focus omega
       rintro ⟨a0, c, i, k⟩
       refine ok_sk (.both (.stop []) (.stop [])) (S := .fork (decide (i < c)) (.stop (Hd.leaf (.tuple [.agg lpZ, .int .i64 5])) [] ([])) (.stop (Hd.leaf (.tuple [.agg lpZ, .int .i64 5])) [] ([]))) (by kernel_rfl) ?_
       refine hold_forkD (fun h13 => ?_) (fun h13 => ?_)
       ·
        refine hold_stop (fun hd hb => ?_)
        exact ok_leaf0 hd rfl (.inr ⟨fun h => by have := h.1; omega, rfl, rfl⟩)
       refine hold_stop (fun hd hb => ?_)
       exact ok_leaf0 hd rfl (.inr ⟨fun h => by have := h.1; omega, rfl, rfl⟩)
      refine ok_sk (.stop [1]) (S := .stop (Hd.call 33 [.ptr 1 0, .int .i64 1]) [1] ([bk 1 [.data 1 n (by8 y), .sint .i64 (7 : Int), .bool true]])) (by kernel_rfl) ?_
      refine hold_stop (fun hd hb => ?_)
      refine rd_call hd (rb1 n y _ hn ?_) hb (by kernel_rfl) fit_n ?_
      focus omega
      rintro x G ⟨rfl, rfl⟩
      refine ok_sk (.stop [1]) (S := .stop (Hd.call 33 [.ptr 1 0, .int .i64 8]) [1] ([bk 1 [.data 1 n (by8 y), .sint .i64 (7 : Int), .bool true]])) (by kernel_rfl) ?_
      refine hold_stop (fun hd hb => ?_)
      refine rd_call hd (rb8 n y _ hn ?_) hb (by kernel_rfl) fit_n ?_
      focus omega
      rintro x G ⟨rfl, rfl⟩
      refine ok_sk (.stop [1]) (S := .stop (Hd.call 33 [.ptr 1 0, .int .i64 2]) [1] ([bk 1 [.data 1 n (by8 y), .sint .i64 (7 : Int), .bool true]])) (by kernel_rfl) ?_
      refine hold_stop (fun hd hb => ?_)
      refine rd_call hd (rb2 n y _ hn ?_) hb (by kernel_rfl) fit_n ?_
      focus omega
      rintro x G ⟨rfl, rfl⟩
      refine ok_sk (.stop [1]) (S := .stop (Hd.call 33 [.ptr 1 0, .int .i64 8]) [1] ([bk 1 [.data 1 n (by8 y), .sint .i64 (7 : Int), .bool true]])) (by kernel_rfl) ?_
      refine hold_stop (fun hd hb => ?_)
      refine rd_call hd (rb8 n y _ hn ?_) hb (by kernel_rfl) fit_n ?_
      focus omega
      rintro x G ⟨rfl, rfl⟩
      refine ok_sk (.stop [1]) (S := .stop (Hd.call 33 [.ptr 1 0, .int .i64 8]) [1] ([bk 1 [.data 1 n (by8 y), .sint .i64 (7 : Int), .bool true]])) (by kernel_rfl) ?_
      refine hold_stop (fun hd hb => ?_)
      refine rd_call hd (rb8 n y _ hn ?_) hb (by kernel_rfl) fit_n ?_
      focus omega
      rintro x G ⟨rfl, rfl⟩
      refine ok_sk (.stop [1]) (S := .stop (Hd.call 33 [.ptr 1 0, .int .i64 8]) [1] ([bk 1 [.data 1 n (by8 y), .sint .i64 (7 : Int), .bool true]])) (by kernel_rfl) ?_
      refine hold_stop (fun hd hb => ?_)
      refine rd_call hd (rb8 n y _ hn ?_) hb (by kernel_rfl) fit_n ?_
      focus omega
      rintro x G ⟨rfl, rfl⟩
      refine ok_sk (.stop [1]) (S := .stop (Hd.call 33 [.ptr 1 0, .int .i64 1]) [1] ([bk 1 [.data 1 n (by8 y), .sint .i64 (7 : Int), .bool true]])) (by kernel_rfl) ?_
      refine hold_stop (fun hd hb => ?_)
      refine rd_call hd (rb1 n y _ hn ?_) hb (by kernel_rfl) fit_n ?_
      focus omega
      rintro x G ⟨rfl, rfl⟩
      refine ok_sk (.stop [0, 1, 3]) (S := .stop (Hd.loop 42 [.data 1 n (by8 y), .tuple [], .ptr 0 0, .int .i64 0, .ptr 1 0, .ptr 3 0, .int .i64 0, .int .i64 0, .data 1 n (by8 y), .agg [.data 1 n (by8 y), .int .i64 0, .bool false], .ptr 1 0, .ptr 1 0, .sint .u64 (n1 (sh y 0)), .sint .u8 (n1 (sh y 0) % 256), .agg [.sint .u8 (n1 (sh y 0) % 256), .int .i64 0, .int .u8 0, .int .u64 0, .int .i64 0, .int .i64 0, .int .u64 0, .int .u64 0, .int .i64 0, .int .i64 0, .int .i64 0, .nilSlice], .ptr 1 0, .sint .u64 (n2 (sh y 1)), .sint .i64 (n2 (sh y 1)), m2 y 1, .ptr 3 1, .ptr 1 0, .sint .u64 (n2 (sh y 3)), .sint .i64 (n2 (sh y 3)), m2 y 3, .ptr 3 9, .ptr 1 0, .sint .u64 (n2 (sh y 5)), .sint .i64 (n2 (sh y 5)), m2 y 5, .ptr 3 8, .ptr 1 0, .int .u64 0, .int .i64 0, .int .i64 (Int.negSucc 0), .ptr 3 10, .ptr 1 0, .int .u64 0, .int .u8 0, .ptr 3 2, .ptr 3 2, .ptr 1 0, .int .u64 0, .ptr 3 2, .ptr 3 3, .ptr 1 0, .int .u64 0, .int .i64 0, .int .i64 (Int.negSucc 0), .ptr 3 2, .ptr 3 4, .ptr 1 0, .int .u64 0, .int .u64 18446744073709551615, .int .i64 (Int.negSucc 0), .ptr 3 2, .ptr 3 5, .ptr 1 0, .int .u64 0, .ptr 3 2, .ptr 3 6, .ptr 1 0, .int .u64 0, .ptr 3 2, .ptr 3 7, .ptr 1 0, .int .u64 0, .int .i64 0, .tuple [], .tuple [], .tuple [], .tuple [], .tuple [], .tuple [], .tuple [], .tuple [], .tuple [], .tuple [], .tuple [], .tuple [], .tuple [], .tuple [], .tuple [], .tuple [], .tuple [], .tuple [], .tuple [], .tuple [], .tuple [], .tuple [], .tuple [], .tuple [], .tuple [], .tuple [], .tuple [], .tuple [], .tuple [], .tuple [], .tuple [], .tuple [], .tuple [], .tuple [], .tuple [], .tuple [], .tuple [], .tuple [], .tuple [], .tuple []]) [0, 1, 3] ([bk 0 lpZ, bk 1 [.data 1 n (by8 y), .sint .i64 (7 : Int), .bool true], bk 3 [.sint .u8 (n1 (sh y 0) % 256), m2 y 1, .int .u8 0, .int .u64 0, .int .i64 (Int.negSucc 0), .int .i64 (Int.negSucc 0), .int .u64 0, .int .u64 0, m2 y 5, m2 y 3, .int .i64 (Int.negSucc 0), .nilSlice]])) (by kernel_rfl) ?_
      refine hold_stop (fun hd hb => ?_)
      refine ok_loop hd (X := VS n y) vbT vbG (fun _ => 0) [some 0, some 1, some 3] ⟨_, 0, 0, ?_⟩ (fits3t (look_get hb 0 rfl rfl).1 (look_get hb 1 rfl rfl).1 (look_get hb 2 rfl rfl).1 (by decide) (vT_fit fit_i fit_i) lpZ_fit (rd_fit fit_n) brt_fit) ?_
      focus omega
      rintro ⟨a0, c, i, k⟩
      refine ok_sk (.both (.stop []) (.stop [])) (S := .fork (decide (i < c)) (.stop (Hd.leaf (.tuple [.agg lpZ, .int .i64 5])) [] ([])) (.stop (Hd.leaf (.tuple [.agg lpZ, .int .i64 5])) [] ([]))) (by kernel_rfl) ?_
      refine hold_forkD (fun h13 => ?_) (fun h13 => ?_)
      ·
       refine hold_stop (fun hd hb => ?_)
       exact ok_leaf0 hd rfl (.inr ⟨fun h => by have := h.1; omega, rfl, rfl⟩)
      refine hold_stop (fun hd hb => ?_)
      exact ok_leaf0 hd rfl (.inr ⟨fun h => by have := h.1; omega, rfl, rfl⟩)
     refine ok_sk (.stop [1]) (S := .stop (Hd.call 33 [.ptr 1 0, .int .i64 4]) [1] ([bk 1 [.data 1 n (by8 y), .sint .i64 (5 : Int), .bool true]])) (by kernel_rfl) ?_
     refine hold_stop (fun hd hb => ?_)
     refine rd_call hd (rb4 n y _ hn ?_) hb (by kernel_rfl) fit_n ?_
     focus omega
     rintro x G ⟨rfl, rfl⟩
     refine ok_sk (.stop [1]) (S := .stop (Hd.call 33 [.ptr 1 0, .int .i64 1]) [1] ([bk 1 [.data 1 n (by8 y), .sint .i64 (5 : Int), .bool true]])) (by kernel_rfl) ?_
     refine hold_stop (fun hd hb => ?_)
     refine rd_call hd (rb1 n y _ hn ?_) hb (by kernel_rfl) fit_n ?_
     focus omega
     rintro x G ⟨rfl, rfl⟩
     refine ok_sk (.stop [1]) (S := .stop (Hd.call 33 [.ptr 1 0, .int .i64 8]) [1] ([bk 1 [.data 1 n (by8 y), .sint .i64 (5 : Int), .bool true]])) (by kernel_rfl) ?_
     refine hold_stop (fun hd hb => ?_)
     refine rd_call hd (rb8 n y _ hn ?_) hb (by kernel_rfl) fit_n ?_
     focus omega
     rintro x G ⟨rfl, rfl⟩
     refine ok_sk (.stop [1]) (S := .stop (Hd.call 33 [.ptr 1 0, .int .i64 2]) [1] ([bk 1 [.data 1 n (by8 y), .sint .i64 (5 : Int), .bool true]])) (by kernel_rfl) ?_
     refine hold_stop (fun hd hb => ?_)
     refine rd_call hd (rb2 n y _ hn ?_) hb (by kernel_rfl) fit_n ?_
     focus omega
     rintro x G ⟨rfl, rfl⟩
     refine ok_sk (.stop [1]) (S := .stop (Hd.call 33 [.ptr 1 0, .int .i64 8]) [1] ([bk 1 [.data 1 n (by8 y), .sint .i64 (5 : Int), .bool true]])) (by kernel_rfl) ?_
     refine hold_stop (fun hd hb => ?_)
     refine rd_call hd (rb8 n y _ hn ?_) hb (by kernel_rfl) fit_n ?_
     focus omega
     rintro x G ⟨rfl, rfl⟩
     refine ok_sk (.stop [1]) (S := .stop (Hd.call 33 [.ptr 1 0, .int .i64 8]) [1] ([bk 1 [.data 1 n (by8 y), .sint .i64 (5 : Int), .bool true]])) (by kernel_rfl) ?_
     refine hold_stop (fun hd hb => ?_)
     refine rd_call hd (rb8 n y _ hn ?_) hb (by kernel_rfl) fit_n ?_
     focus omega
     rintro x G ⟨rfl, rfl⟩
     refine ok_sk (.stop [1]) (S := .stop (Hd.call 33 [.ptr 1 0, .int .i64 8]) [1] ([bk 1 [.data 1 n (by8 y), .sint .i64 (5 : Int), .bool true]])) (by kernel_rfl) ?_
     refine hold_stop (fun hd hb => ?_)
     refine rd_call hd (rb8 n y _ hn ?_) hb (by kernel_rfl) fit_n ?_
     focus omega
     rintro x G ⟨rfl, rfl⟩
     refine ok_sk (.stop [1]) (S := .stop (Hd.call 33 [.ptr 1 0, .int .i64 1]) [1] ([bk 1 [.data 1 n (by8 y), .sint .i64 (5 : Int), .bool true]])) (by kernel_rfl) ?_
     refine hold_stop (fun hd hb => ?_)
     refine rd_call hd (rb1 n y _ hn ?_) hb (by kernel_rfl) fit_n ?_
     focus omega
     rintro x G ⟨rfl, rfl⟩
     refine ok_sk (.stop [0, 1, 3]) (S := .stop (Hd.loop 42 [.data 1 n (by8 y), .tuple [], .ptr 0 0, .int .i64 0, .ptr 1 0, .ptr 3 0, .int .i64 0, .int .i64 0, .data 1 n (by8 y), .agg [.data 1 n (by8 y), .int .i64 0, .bool false], .ptr 1 0, .ptr 1 0, .sint .u64 (n1 (sh y 0)), .sint .u8 (n1 (sh y 0) % 256), .agg [.sint .u8 (n1 (sh y 0) % 256), .int .i64 0, .int .u8 0, .int .u64 0, .int .i64 0, .int .i64 0, .int .u64 0, .int .u64 0, .int .i64 0, .int .i64 0, .int .i64 0, .nilSlice], .ptr 1 0, .sint .u64 (n2 (sh y 1)), .sint .i64 (n2 (sh y 1)), m2 y 1, .ptr 3 1, .ptr 1 0, .sint .u64 (n2 (sh y 3)), .sint .i64 (n2 (sh y 3)), m2 y 3, .ptr 3 9, .ptr 1 0, .int .u64 0, .int .i64 0, .int .i64 (Int.negSucc 0), .ptr 3 8, .ptr 1 0, .int .u64 0, .int .i64 0, .int .i64 (Int.negSucc 0), .ptr 3 10, .ptr 1 0, .int .u64 0, .int .u8 0, .ptr 3 2, .ptr 3 2, .ptr 1 0, .int .u64 0, .ptr 3 2, .ptr 3 3, .ptr 1 0, .int .u64 0, .int .i64 0, .int .i64 (Int.negSucc 0), .ptr 3 2, .ptr 3 4, .ptr 1 0, .int .u64 0, .int .u64 18446744073709551615, .int .i64 (Int.negSucc 0), .ptr 3 2, .ptr 3 5, .ptr 1 0, .int .u64 0, .ptr 3 2, .ptr 3 6, .ptr 1 0, .int .u64 0, .ptr 3 2, .ptr 3 7, .ptr 1 0, .int .u64 0, .int .i64 0, .tuple [], .tuple [], .tuple [], .tuple [], .tuple [], .tuple [], .tuple [], .tuple [], .tuple [], .tuple [], .tuple [], .tuple [], .tuple [], .tuple [], .tuple [], .tuple [], .tuple [], .tuple [], .tuple [], .tuple [], .tuple [], .tuple [], .tuple [], .tuple [], .tuple [], .tuple [], .tuple [], .tuple [], .tuple [], .tuple [], .tuple [], .tuple [], .tuple [], .tuple [], .tuple [], .tuple [], .tuple [], .tuple [], .tuple [], .tuple []]) [0, 1, 3] ([bk 0 lpZ, bk 1 [.data 1 n (by8 y), .sint .i64 (5 : Int), .bool true], bk 3 [.sint .u8 (n1 (sh y 0) % 256), m2 y 1, .int .u8 0, .int .u64 0, .int .i64 (Int.negSucc 0), .int .i64 (Int.negSucc 0), .int .u64 0, .int .u64 0, .int .i64 (Int.negSucc 0), m2 y 3, .int .i64 (Int.negSucc 0), .nilSlice]])) (by kernel_rfl) ?_
     refine hold_stop (fun hd hb => ?_)
     refine ok_loop hd (X := VS n y) vbT vbG (fun _ => 0) [some 0, some 1, some 3] ⟨_, 0, 0, ?_⟩ (fits3t (look_get hb 0 rfl rfl).1 (look_get hb 1 rfl rfl).1 (look_get hb 2 rfl rfl).1 (by decide) (vT_fit fit_i fit_i) lpZ_fit (rd_fit fit_n) brt_fit) ?_
     focus omega
     rintro ⟨a0, c, i, k⟩
     refine ok_sk (.both (.stop []) (.stop [])) (S := .fork (decide (i < c)) (.stop (Hd.leaf (.tuple [.agg lpZ, .int .i64 5])) [] ([])) (.stop (Hd.leaf (.tuple [.agg lpZ, .int .i64 5])) [] ([]))) (by kernel_rfl) ?_
     refine hold_forkD (fun h13 => ?_) (fun h13 => ?_)
     ·
      refine hold_stop (fun hd hb => ?_)
      exact ok_leaf0 hd rfl (.inr ⟨fun h => by have := h.1; omega, rfl, rfl⟩)
     refine hold_stop (fun hd hb => ?_)
     exact ok_leaf0 hd rfl (.inr ⟨fun h => by have := h.1; omega, rfl, rfl⟩)
    refine ok_sk (.stop [1]) (S := .stop (Hd.call 33 [.ptr 1 0, .int .i64 2]) [1] ([bk 1 [.data 1 n (by8 y), .sint .i64 (3 : Int), .bool true]])) (by kernel_rfl) ?_
    refine hold_stop (fun hd hb => ?_)
    refine rd_call hd (rb2 n y _ hn ?_) hb (by kernel_rfl) fit_n ?_
    focus omega
    rintro x G ⟨rfl, rfl⟩
    refine ok_sk (.stop [1]) (S := .stop (Hd.call 33 [.ptr 1 0, .int .i64 4]) [1] ([bk 1 [.data 1 n (by8 y), .sint .i64 (3 : Int), .bool true]])) (by kernel_rfl) ?_
    refine hold_stop (fun hd hb => ?_)
    refine rd_call hd (rb4 n y _ hn ?_) hb (by kernel_rfl) fit_n ?_
    focus omega
    rintro x G ⟨rfl, rfl⟩
    refine ok_sk (.stop [1]) (S := .stop (Hd.call 33 [.ptr 1 0, .int .i64 1]) [1] ([bk 1 [.data 1 n (by8 y), .sint .i64 (3 : Int), .bool true]])) (by kernel_rfl) ?_
    refine hold_stop (fun hd hb => ?_)
    refine rd_call hd (rb1 n y _ hn ?_) hb (by kernel_rfl) fit_n ?_
    focus omega
    rintro x G ⟨rfl, rfl⟩
    refine ok_sk (.stop [1]) (S := .stop (Hd.call 33 [.ptr 1 0, .int .i64 8]) [1] ([bk 1 [.data 1 n (by8 y), .sint .i64 (3 : Int), .bool true]])) (by kernel_rfl) ?_
    refine hold_stop (fun hd hb => ?_)
    refine rd_call hd (rb8 n y _ hn ?_) hb (by kernel_rfl) fit_n ?_
    focus omega
    rintro x G ⟨rfl, rfl⟩
    refine ok_sk (.stop [1]) (S := .stop (Hd.call 33 [.ptr 1 0, .int .i64 2]) [1] ([bk 1 [.data 1 n (by8 y), .sint .i64 (3 : Int), .bool true]])) (by kernel_rfl) ?_
    refine hold_stop (fun hd hb => ?_)
    refine rd_call hd (rb2 n y _ hn ?_) hb (by kernel_rfl) fit_n ?_
    focus omega
    rintro x G ⟨rfl, rfl⟩
    refine ok_sk (.stop [1]) (S := .stop (Hd.call 33 [.ptr 1 0, .int .i64 8]) [1] ([bk 1 [.data 1 n (by8 y), .sint .i64 (3 : Int), .bool true]])) (by kernel_rfl) ?_
    refine hold_stop (fun hd hb => ?_)
    refine rd_call hd (rb8 n y _ hn ?_) hb (by kernel_rfl) fit_n ?_
    focus omega
    rintro x G ⟨rfl, rfl⟩
    refine ok_sk (.stop [1]) (S := .stop (Hd.call 33 [.ptr 1 0, .int .i64 8]) [1] ([bk 1 [.data 1 n (by8 y), .sint .i64 (3 : Int), .bool true]])) (by kernel_rfl) ?_
    refine hold_stop (fun hd hb => ?_)
    refine rd_call hd (rb8 n y _ hn ?_) hb (by kernel_rfl) fit_n ?_
    focus omega
    rintro x G ⟨rfl, rfl⟩
    refine ok_sk (.stop [1]) (S := .stop (Hd.call 33 [.ptr 1 0, .int .i64 8]) [1] ([bk 1 [.data 1 n (by8 y), .sint .i64 (3 : Int), .bool true]])) (by kernel_rfl) ?_
    refine hold_stop (fun hd hb => ?_)
    refine rd_call hd (rb8 n y _ hn ?_) hb (by kernel_rfl) fit_n ?_
    focus omega
    rintro x G ⟨rfl, rfl⟩
    refine ok_sk (.stop [1]) (S := .stop (Hd.call 33 [.ptr 1 0, .int .i64 1]) [1] ([bk 1 [.data 1 n (by8 y), .sint .i64 (3 : Int), .bool true]])) (by kernel_rfl) ?_
    refine hold_stop (fun hd hb => ?_)
    refine rd_call hd (rb1 n y _ hn ?_) hb (by kernel_rfl) fit_n ?_
    focus omega
    rintro x G ⟨rfl, rfl⟩
    refine ok_sk (.stop [0, 1, 3]) (S := .stop (Hd.loop 42 [.data 1 n (by8 y), .tuple [], .ptr 0 0, .int .i64 0, .ptr 1 0, .ptr 3 0, .int .i64 0, .int .i64 0, .data 1 n (by8 y), .agg [.data 1 n (by8 y), .int .i64 0, .bool false], .ptr 1 0, .ptr 1 0, .sint .u64 (n1 (sh y 0)), .sint .u8 (n1 (sh y 0) % 256), .agg [.sint .u8 (n1 (sh y 0) % 256), .int .i64 0, .int .u8 0, .int .u64 0, .int .i64 0, .int .i64 0, .int .u64 0, .int .u64 0, .int .i64 0, .int .i64 0, .int .i64 0, .nilSlice], .ptr 1 0, .sint .u64 (n2 (sh y 1)), .sint .i64 (n2 (sh y 1)), m2 y 1, .ptr 3 1, .ptr 1 0, .int .u64 0, .int .i64 0, .int .i64 (Int.negSucc 0), .ptr 3 9, .ptr 1 0, .int .u64 0, .int .i64 0, .int .i64 (Int.negSucc 0), .ptr 3 8, .ptr 1 0, .int .u64 0, .int .i64 0, .int .i64 (Int.negSucc 0), .ptr 3 10, .ptr 1 0, .int .u64 0, .int .u8 0, .ptr 3 2, .ptr 3 2, .ptr 1 0, .int .u64 0, .ptr 3 2, .ptr 3 3, .ptr 1 0, .int .u64 0, .int .i64 0, .int .i64 (Int.negSucc 0), .ptr 3 2, .ptr 3 4, .ptr 1 0, .int .u64 0, .int .u64 18446744073709551615, .int .i64 (Int.negSucc 0), .ptr 3 2, .ptr 3 5, .ptr 1 0, .int .u64 0, .ptr 3 2, .ptr 3 6, .ptr 1 0, .int .u64 0, .ptr 3 2, .ptr 3 7, .ptr 1 0, .int .u64 0, .int .i64 0, .tuple [], .tuple [], .tuple [], .tuple [], .tuple [], .tuple [], .tuple [], .tuple [], .tuple [], .tuple [], .tuple [], .tuple [], .tuple [], .tuple [], .tuple [], .tuple [], .tuple [], .tuple [], .tuple [], .tuple [], .tuple [], .tuple [], .tuple [], .tuple [], .tuple [], .tuple [], .tuple [], .tuple [], .tuple [], .tuple [], .tuple [], .tuple [], .tuple [], .tuple [], .tuple [], .tuple [], .tuple [], .tuple [], .tuple [], .tuple []]) [0, 1, 3] ([bk 0 lpZ, bk 1 [.data 1 n (by8 y), .sint .i64 (3 : Int), .bool true], bk 3 [.sint .u8 (n1 (sh y 0) % 256), m2 y 1, .int .u8 0, .int .u64 0, .int .i64 (Int.negSucc 0), .int .i64 (Int.negSucc 0), .int .u64 0, .int .u64 0, .int .i64 (Int.negSucc 0), .int .i64 (Int.negSucc 0), .int .i64 (Int.negSucc 0), .nilSlice]])) (by kernel_rfl) ?_
    refine hold_stop (fun hd hb => ?_)
    refine ok_loop hd (X := VS n y) vbT vbG (fun _ => 0) [some 0, some 1, some 3] ⟨_, 0, 0, ?_⟩ (fits3t (look_get hb 0 rfl rfl).1 (look_get hb 1 rfl rfl).1 (look_get hb 2 rfl rfl).1 (by decide) (vT_fit fit_i fit_i) lpZ_fit (rd_fit fit_n) brt_fit) ?_
    focus omega
    rintro ⟨a0, c, i, k⟩
    refine ok_sk (.both (.stop []) (.stop [])) (S := .fork (decide (i < c)) (.stop (Hd.leaf (.tuple [.agg lpZ, .int .i64 5])) [] ([])) (.stop (Hd.leaf (.tuple [.agg lpZ, .int .i64 5])) [] ([]))) (by kernel_rfl) ?_
    refine hold_forkD (fun h13 => ?_) (fun h13 => ?_)
    ·
     refine hold_stop (fun hd hb => ?_)
     exact ok_leaf0 hd rfl (.inr ⟨fun h => by have := h.1; omega, rfl, rfl⟩)
    refine hold_stop (fun hd hb => ?_)
    exact ok_leaf0 hd rfl (.inr ⟨fun h => by have := h.1; omega, rfl, rfl⟩)
   refine ok_sk (.stop [1]) (S := .stop (Hd.call 33 [.ptr 1 0, .int .i64 2]) [1] ([bk 1 [.data 1 n (by8 y), .sint .i64 (1 : Int), .bool true]])) (by kernel_rfl) ?_
   refine hold_stop (fun hd hb => ?_)
   refine rd_call hd (rb2 n y _ hn ?_) hb (by kernel_rfl) fit_n ?_
   focus omega
   rintro x G ⟨rfl, rfl⟩
   refine ok_sk (.stop [1]) (S := .stop (Hd.call 33 [.ptr 1 0, .int .i64 2]) [1] ([bk 1 [.data 1 n (by8 y), .sint .i64 (1 : Int), .bool true]])) (by kernel_rfl) ?_
   refine hold_stop (fun hd hb => ?_)
   refine rd_call hd (rb2 n y _ hn ?_) hb (by kernel_rfl) fit_n ?_
   focus omega
   rintro x G ⟨rfl, rfl⟩
   refine ok_sk (.stop [1]) (S := .stop (Hd.call 33 [.ptr 1 0, .int .i64 4]) [1] ([bk 1 [.data 1 n (by8 y), .sint .i64 (1 : Int), .bool true]])) (by kernel_rfl) ?_
   refine hold_stop (fun hd hb => ?_)
   refine rd_call hd (rb4 n y _ hn ?_) hb (by kernel_rfl) fit_n ?_
   focus omega
   rintro x G ⟨rfl, rfl⟩
   refine ok_sk (.stop [1]) (S := .stop (Hd.call 33 [.ptr 1 0, .int .i64 1]) [1] ([bk 1 [.data 1 n (by8 y), .sint .i64 (1 : Int), .bool true]])) (by kernel_rfl) ?_
   refine hold_stop (fun hd hb => ?_)
   refine rd_call hd (rb1 n y _ hn ?_) hb (by kernel_rfl) fit_n ?_
   focus omega
   rintro x G ⟨rfl, rfl⟩
   refine ok_sk (.stop [1]) (S := .stop (Hd.call 33 [.ptr 1 0, .int .i64 8]) [1] ([bk 1 [.data 1 n (by8 y), .sint .i64 (1 : Int), .bool true]])) (by kernel_rfl) ?_
   refine hold_stop (fun hd hb => ?_)
   refine rd_call hd (rb8 n y _ hn ?_) hb (by kernel_rfl) fit_n ?_
   focus omega
   rintro x G ⟨rfl, rfl⟩
   refine ok_sk (.stop [1]) (S := .stop (Hd.call 33 [.ptr 1 0, .int .i64 2]) [1] ([bk 1 [.data 1 n (by8 y), .sint .i64 (1 : Int), .bool true]])) (by kernel_rfl) ?_
   refine hold_stop (fun hd hb => ?_)
   refine rd_call hd (rb2 n y _ hn ?_) hb (by kernel_rfl) fit_n ?_
   focus omega
   rintro x G ⟨rfl, rfl⟩
   refine ok_sk (.stop [1]) (S := .stop (Hd.call 33 [.ptr 1 0, .int .i64 8]) [1] ([bk 1 [.data 1 n (by8 y), .sint .i64 (1 : Int), .bool true]])) (by kernel_rfl) ?_
   refine hold_stop (fun hd hb => ?_)
   refine rd_call hd (rb8 n y _ hn ?_) hb (by kernel_rfl) fit_n ?_
   focus omega
   rintro x G ⟨rfl, rfl⟩
   refine ok_sk (.stop [1]) (S := .stop (Hd.call 33 [.ptr 1 0, .int .i64 8]) [1] ([bk 1 [.data 1 n (by8 y), .sint .i64 (1 : Int), .bool true]])) (by kernel_rfl) ?_
   refine hold_stop (fun hd hb => ?_)
   refine rd_call hd (rb8 n y _ hn ?_) hb (by kernel_rfl) fit_n ?_
   focus omega
   rintro x G ⟨rfl, rfl⟩
   refine ok_sk (.stop [1]) (S := .stop (Hd.call 33 [.ptr 1 0, .int .i64 8]) [1] ([bk 1 [.data 1 n (by8 y), .sint .i64 (1 : Int), .bool true]])) (by kernel_rfl) ?_
   refine hold_stop (fun hd hb => ?_)
   refine rd_call hd (rb8 n y _ hn ?_) hb (by kernel_rfl) fit_n ?_
   focus omega
   rintro x G ⟨rfl, rfl⟩
   refine ok_sk (.stop [1]) (S := .stop (Hd.call 33 [.ptr 1 0, .int .i64 1]) [1] ([bk 1 [.data 1 n (by8 y), .sint .i64 (1 : Int), .bool true]])) (by kernel_rfl) ?_
   refine hold_stop (fun hd hb => ?_)
   refine rd_call hd (rb1 n y _ hn ?_) hb (by kernel_rfl) fit_n ?_
   focus omega
   rintro x G ⟨rfl, rfl⟩
   refine ok_sk (.stop [0, 1, 3]) (S := .stop (Hd.loop 42 [.data 1 n (by8 y), .tuple [], .ptr 0 0, .int .i64 0, .ptr 1 0, .ptr 3 0, .int .i64 0, .int .i64 0, .data 1 n (by8 y), .agg [.data 1 n (by8 y), .int .i64 0, .bool false], .ptr 1 0, .ptr 1 0, .sint .u64 (n1 (sh y 0)), .sint .u8 (n1 (sh y 0) % 256), .agg [.sint .u8 (n1 (sh y 0) % 256), .int .i64 0, .int .u8 0, .int .u64 0, .int .i64 0, .int .i64 0, .int .u64 0, .int .u64 0, .int .i64 0, .int .i64 0, .int .i64 0, .nilSlice], .ptr 1 0, .int .u64 0, .int .i64 0, .int .i64 (Int.negSucc 0), .ptr 3 1, .ptr 1 0, .int .u64 0, .int .i64 0, .int .i64 (Int.negSucc 0), .ptr 3 9, .ptr 1 0, .int .u64 0, .int .i64 0, .int .i64 (Int.negSucc 0), .ptr 3 8, .ptr 1 0, .int .u64 0, .int .i64 0, .int .i64 (Int.negSucc 0), .ptr 3 10, .ptr 1 0, .int .u64 0, .int .u8 0, .ptr 3 2, .ptr 3 2, .ptr 1 0, .int .u64 0, .ptr 3 2, .ptr 3 3, .ptr 1 0, .int .u64 0, .int .i64 0, .int .i64 (Int.negSucc 0), .ptr 3 2, .ptr 3 4, .ptr 1 0, .int .u64 0, .int .u64 18446744073709551615, .int .i64 (Int.negSucc 0), .ptr 3 2, .ptr 3 5, .ptr 1 0, .int .u64 0, .ptr 3 2, .ptr 3 6, .ptr 1 0, .int .u64 0, .ptr 3 2, .ptr 3 7, .ptr 1 0, .int .u64 0, .int .i64 0, .tuple [], .tuple [], .tuple [], .tuple [], .tuple [], .tuple [], .tuple [], .tuple [], .tuple [], .tuple [], .tuple [], .tuple [], .tuple [], .tuple [], .tuple [], .tuple [], .tuple [], .tuple [], .tuple [], .tuple [], .tuple [], .tuple [], .tuple [], .tuple [], .tuple [], .tuple [], .tuple [], .tuple [], .tuple [], .tuple [], .tuple [], .tuple [], .tuple [], .tuple [], .tuple [], .tuple [], .tuple [], .tuple [], .tuple [], .tuple []]) [0, 1, 3] ([bk 0 lpZ, bk 1 [.data 1 n (by8 y), .sint .i64 (1 : Int), .bool true], bk 3 [.sint .u8 (n1 (sh y 0) % 256), .int .i64 (Int.negSucc 0), .int .u8 0, .int .u64 0, .int .i64 (Int.negSucc 0), .int .i64 (Int.negSucc 0), .int .u64 0, .int .u64 0, .int .i64 (Int.negSucc 0), .int .i64 (Int.negSucc 0), .int .i64 (Int.negSucc 0), .nilSlice]])) (by kernel_rfl) ?_
   refine hold_stop (fun hd hb => ?_)
   refine ok_loop hd (X := VS n y) vbT vbG (fun _ => 0) [some 0, some 1, some 3] ⟨_, 0, 0, ?_⟩ (fits3t (look_get hb 0 rfl rfl).1 (look_get hb 1 rfl rfl).1 (look_get hb 2 rfl rfl).1 (by decide) (vT_fit fit_i fit_i) lpZ_fit (rd_fit fit_n) brt_fit) ?_
   focus omega
   rintro ⟨a0, c, i, k⟩
   refine ok_sk (.both (.stop []) (.stop [])) (S := .fork (decide (i < c)) (.stop (Hd.leaf (.tuple [.agg lpZ, .int .i64 5])) [] ([])) (.stop (Hd.leaf (.tuple [.agg lpZ, .int .i64 5])) [] ([]))) (by kernel_rfl) ?_
   refine hold_forkD (fun h13 => ?_) (fun h13 => ?_)
   ·
    refine hold_stop (fun hd hb => ?_)
    exact ok_leaf0 hd rfl (.inr ⟨fun h => by have := h.1; omega, rfl, rfl⟩)
   refine hold_stop (fun hd hb => ?_)
   exact ok_leaf0 hd rfl (.inr ⟨fun h => by have := h.1; omega, rfl, rfl⟩)
  refine ok_sk (.stop [1]) (S := .stop (Hd.call 33 [.ptr 1 0, .int .i64 2]) [1] ([bk 1 [.data 1 n (by8 y), .sint .i64 (0 : Int), .bool true]])) (by kernel_rfl) ?_
  refine hold_stop (fun hd hb => ?_)
  refine rd_call hd (rb2 n y _ hn ?_) hb (by kernel_rfl) fit_n ?_
  focus omega
  rintro x G ⟨rfl, rfl⟩
  refine ok_sk (.stop [1]) (S := .stop (Hd.call 33 [.ptr 1 0, .int .i64 2]) [1] ([bk 1 [.data 1 n (by8 y), .sint .i64 (0 : Int), .bool true]])) (by kernel_rfl) ?_
  refine hold_stop (fun hd hb => ?_)
  refine rd_call hd (rb2 n y _ hn ?_) hb (by kernel_rfl) fit_n ?_
  focus omega
  rintro x G ⟨rfl, rfl⟩
  refine ok_sk (.stop [1]) (S := .stop (Hd.call 33 [.ptr 1 0, .int .i64 2]) [1] ([bk 1 [.data 1 n (by8 y), .sint .i64 (0 : Int), .bool true]])) (by kernel_rfl) ?_
  refine hold_stop (fun hd hb => ?_)
  refine rd_call hd (rb2 n y _ hn ?_) hb (by kernel_rfl) fit_n ?_
  focus omega
  rintro x G ⟨rfl, rfl⟩
  refine ok_sk (.stop [1]) (S := .stop (Hd.call 33 [.ptr 1 0, .int .i64 4]) [1] ([bk 1 [.data 1 n (by8 y), .sint .i64 (0 : Int), .bool true]])) (by kernel_rfl) ?_
  refine hold_stop (fun hd hb => ?_)
  refine rd_call hd (rb4 n y _ hn ?_) hb (by kernel_rfl) fit_n ?_
  focus omega
  rintro x G ⟨rfl, rfl⟩
  refine ok_sk (.stop [1]) (S := .stop (Hd.call 33 [.ptr 1 0, .int .i64 1]) [1] ([bk 1 [.data 1 n (by8 y), .sint .i64 (0 : Int), .bool true]])) (by kernel_rfl) ?_
  refine hold_stop (fun hd hb => ?_)
  refine rd_call hd (rb1 n y _ hn ?_) hb (by kernel_rfl) fit_n ?_
  focus omega
  rintro x G ⟨rfl, rfl⟩
  refine ok_sk (.stop [1]) (S := .stop (Hd.call 33 [.ptr 1 0, .int .i64 8]) [1] ([bk 1 [.data 1 n (by8 y), .sint .i64 (0 : Int), .bool true]])) (by kernel_rfl) ?_
  refine hold_stop (fun hd hb => ?_)
  refine rd_call hd (rb8 n y _ hn ?_) hb (by kernel_rfl) fit_n ?_
  focus omega
  rintro x G ⟨rfl, rfl⟩
  refine ok_sk (.stop [1]) (S := .stop (Hd.call 33 [.ptr 1 0, .int .i64 2]) [1] ([bk 1 [.data 1 n (by8 y), .sint .i64 (0 : Int), .bool true]])) (by kernel_rfl) ?_
  refine hold_stop (fun hd hb => ?_)
  refine rd_call hd (rb2 n y _ hn ?_) hb (by kernel_rfl) fit_n ?_
  focus omega
  rintro x G ⟨rfl, rfl⟩
  refine ok_sk (.stop [1]) (S := .stop (Hd.call 33 [.ptr 1 0, .int .i64 8]) [1] ([bk 1 [.data 1 n (by8 y), .sint .i64 (0 : Int), .bool true]])) (by kernel_rfl) ?_
  refine hold_stop (fun hd hb => ?_)
  refine rd_call hd (rb8 n y _ hn ?_) hb (by kernel_rfl) fit_n ?_
  focus omega
  rintro x G ⟨rfl, rfl⟩
  refine ok_sk (.stop [1]) (S := .stop (Hd.call 33 [.ptr 1 0, .int .i64 8]) [1] ([bk 1 [.data 1 n (by8 y), .sint .i64 (0 : Int), .bool true]])) (by kernel_rfl) ?_
  refine hold_stop (fun hd hb => ?_)
  refine rd_call hd (rb8 n y _ hn ?_) hb (by kernel_rfl) fit_n ?_
  focus omega
  rintro x G ⟨rfl, rfl⟩
  refine ok_sk (.stop [1]) (S := .stop (Hd.call 33 [.ptr 1 0, .int .i64 8]) [1] ([bk 1 [.data 1 n (by8 y), .sint .i64 (0 : Int), .bool true]])) (by kernel_rfl) ?_
  refine hold_stop (fun hd hb => ?_)
  refine rd_call hd (rb8 n y _ hn ?_) hb (by kernel_rfl) fit_n ?_
  focus omega
  rintro x G ⟨rfl, rfl⟩
  refine ok_sk (.stop [1]) (S := .stop (Hd.call 33 [.ptr 1 0, .int .i64 1]) [1] ([bk 1 [.data 1 n (by8 y), .sint .i64 (0 : Int), .bool true]])) (by kernel_rfl) ?_
  refine hold_stop (fun hd hb => ?_)
  refine rd_call hd (rb1 n y _ hn ?_) hb (by kernel_rfl) fit_n ?_
  focus omega
  rintro x G ⟨rfl, rfl⟩
  refine ok_sk (.stop [0, 1, 3]) (S := .stop (Hd.loop 42 [.data 1 n (by8 y), .tuple [], .ptr 0 0, .int .i64 0, .ptr 1 0, .ptr 3 0, .int .i64 0, .int .i64 0, .data 1 n (by8 y), .agg [.data 1 n (by8 y), .int .i64 0, .bool false], .ptr 1 0, .ptr 1 0, .int .u64 0, .int .u8 0, .agg lpZ, .ptr 1 0, .int .u64 0, .int .i64 0, .int .i64 (Int.negSucc 0), .ptr 3 1, .ptr 1 0, .int .u64 0, .int .i64 0, .int .i64 (Int.negSucc 0), .ptr 3 9, .ptr 1 0, .int .u64 0, .int .i64 0, .int .i64 (Int.negSucc 0), .ptr 3 8, .ptr 1 0, .int .u64 0, .int .i64 0, .int .i64 (Int.negSucc 0), .ptr 3 10, .ptr 1 0, .int .u64 0, .int .u8 0, .ptr 3 2, .ptr 3 2, .ptr 1 0, .int .u64 0, .ptr 3 2, .ptr 3 3, .ptr 1 0, .int .u64 0, .int .i64 0, .int .i64 (Int.negSucc 0), .ptr 3 2, .ptr 3 4, .ptr 1 0, .int .u64 0, .int .u64 18446744073709551615, .int .i64 (Int.negSucc 0), .ptr 3 2, .ptr 3 5, .ptr 1 0, .int .u64 0, .ptr 3 2, .ptr 3 6, .ptr 1 0, .int .u64 0, .ptr 3 2, .ptr 3 7, .ptr 1 0, .int .u64 0, .int .i64 0, .tuple [], .tuple [], .tuple [], .tuple [], .tuple [], .tuple [], .tuple [], .tuple [], .tuple [], .tuple [], .tuple [], .tuple [], .tuple [], .tuple [], .tuple [], .tuple [], .tuple [], .tuple [], .tuple [], .tuple [], .tuple [], .tuple [], .tuple [], .tuple [], .tuple [], .tuple [], .tuple [], .tuple [], .tuple [], .tuple [], .tuple [], .tuple [], .tuple [], .tuple [], .tuple [], .tuple [], .tuple [], .tuple [], .tuple [], .tuple []]) [0, 1, 3] ([bk 0 lpZ, bk 1 [.data 1 n (by8 y), .sint .i64 (0 : Int), .bool true], bk 3 [.int .u8 0, .int .i64 (Int.negSucc 0), .int .u8 0, .int .u64 0, .int .i64 (Int.negSucc 0), .int .i64 (Int.negSucc 0), .int .u64 0, .int .u64 0, .int .i64 (Int.negSucc 0), .int .i64 (Int.negSucc 0), .int .i64 (Int.negSucc 0), .nilSlice]])) (by kernel_rfl) ?_
  refine hold_stop (fun hd hb => ?_)
  refine ok_loop hd (X := VS n y) vbT vbG (fun _ => 0) [some 0, some 1, some 3] ⟨_, 0, 0, ?_⟩ (fits3t (look_get hb 0 rfl rfl).1 (look_get hb 1 rfl rfl).1 (look_get hb 2 rfl rfl).1 (by decide) (vT_fit fit_i fit_i) lpZ_fit (rd_fit fit_n) brt_fit) ?_
  focus omega
  rintro ⟨a0, c, i, k⟩
  refine ok_sk (.both (.stop []) (.stop [])) (S := .fork (decide (i < c)) (.stop (Hd.leaf (.tuple [.agg lpZ, .int .i64 5])) [] ([])) (.stop (Hd.leaf (.tuple [.agg lpZ, .int .i64 5])) [] ([]))) (by kernel_rfl) ?_
  refine hold_forkD (fun h13 => ?_) (fun h13 => ?_)
  ·
   refine hold_stop (fun hd hb => ?_)
   exact ok_leaf0 hd rfl (.inr ⟨fun h => by have := h.1; omega, rfl, rfl⟩)
  refine hold_stop (fun hd hb => ?_)
  exact ok_leaf0 hd rfl (.inr ⟨fun h => by have := h.1; omega, rfl, rfl⟩)
end Go.Proofs.YtkebdfbdneggkaaGreat
