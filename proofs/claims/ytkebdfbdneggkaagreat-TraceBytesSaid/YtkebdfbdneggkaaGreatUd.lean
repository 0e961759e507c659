import Derived.Test.YtkebdfbdneggkaaGreatUc
set_option linter.unusedVariables false
set_option linter.unusedSimpArgs false
namespace Go.Proofs.YtkebdfbdneggkaaGreat
open Go Go.RowKit Sv
set_option linter.unusedVariables false
set_option linter.unusedSimpArgs false
set_option maxRecDepth 100000
set_option maxHeartbeats 0
theorem wrap8 (v : BitVec 8) : IntKind.u8.wrap (v.toNat : Int) = (v.toNat : Int) := by
  have h := v.isLt
  simp [IntKind.wrap, IntKind.bits, IntKind.signed]
  omega
def xorI (p b : Int) : Int := IntKind.u8.wrap ((BitVec.ofInt 8 p ^^^ BitVec.ofInt 8 b).toNat : Int)
theorem xorI_bd (p b : Int) : 0 ≤ xorI p b ∧ xorI p b < 256 := by
  unfold xorI
  rw [wrap8]
  have h := (BitVec.ofInt 8 p ^^^ BitVec.ofInt 8 b).isLt
  omega
def rowR (s : StI) (q : Nat) (P : Nat → Int) (i : Nat) : List AV := [.sint .u8 (rowI s q P i)]
theorem rows_T (s : StI) (q : Nat) (P : Nat → Int) (n : Nat) : RowsOK 1 n (rowR s q P) := fun i hi => ⟨rfl, rfl⟩
theorem all_rowR (n : Nat) (s : StI) (q : Nat) (P : Nat → Int) : AllBytes n (rowR s q P) := all_rowT n s q P
theorem set_row (s : StI) (q : Nat) (P : Nat → Int) (k : Nat) (x : Int) (i : Nat) : setRow k 0 [AV.sint .u8 x] (rowR s q P) i = [.sint .u8 (if i = k then x else rowI s q P i)] := by
  unfold setRow
  by_cases h : i = k
  · rw [if_pos h, if_pos h]
    rfl
  · rw [if_neg h, if_neg h]
    rfl
theorem rows_S (s : StI) (q : Nat) (P : Nat → Int) (k : Nat) (x : Int) (n : Nat) : RowsOK 1 n (setRow k 0 [AV.sint .u8 x] (rowR s q P)) := fun i hi => by
  rw [set_row]
  exact ⟨rfl, rfl⟩
theorem set_bd (s : StI) (q : Nat) (P : Nat → Int) (k : Nat) {x : Int} (hx : 0 ≤ x ∧ x < 256) (i : Nat) : 0 ≤ (if i = k then x else rowI s q P i) ∧ (if i = k then x else rowI s q P i) < 256 := by
  by_cases h : i = k
  · rw [if_pos h]
    exact hx
  · rw [if_neg h]
    exact rowI_bd s q P i
theorem all_S (s : StI) (q : Nat) (P : Nat → Int) (k : Nat) {x : Int} (hx : 0 ≤ x ∧ x < 256) (n : Nat) : AllBytes n (setRow k 0 [AV.sint .u8 x] (rowR s q P)) := fun i hi => by
  rw [set_row]
  exact set_bd s q P k hx i
def yB (s : StI) (q : Nat) (P : Nat → Int) (k : Nat) (x : Int) (i : Nat) : Nat := (if i = k then x else rowI s q P i).toNat
theorem by_B (s : StI) (q : Nat) (P : Nat → Int) (k : Nat) {x : Int} (hx : 0 ≤ x ∧ x < 256) (i : Nat) : by8 (yB s q P k x) i = setRow k 0 [AV.sint .u8 x] (rowR s q P) i := by
  rw [set_row]
  unfold by8 yB
  have := set_bd s q P k hx i
  rw [show (((if i = k then x else rowI s q P i).toNat % 256 : Nat) : Int) = (if i = k then x else rowI s q P i) by omega]
section
variable {o lp : Nat → Bool} {n0 : Nat} {R : AV → List NewB → Prop} {t : T}
theorem get_badY {b k q m0 : Nat} {x : Int} {s : StI} {P : Nat → Int} (hx : 0 ≤ x ∧ x < 256) (hd : t.hd = .call 10 [.gsl b (47 + q)]) (hs : seqAt t.heap b = some (1, m0, setRow k 0 [AV.sint .u8 x] (rowR s q P))) (hm : 47 + q ≤ m0) (hq : q ≤ 255)
    (hk : ∀ Y : Nat → Nat, (∀ i, (setRow k 0 [AV.sint .u8 x] (rowR s q P) i).map sI = (by8 Y i).map sI ∧ nfs (setRow k 0 [AV.sint .u8 x] (rowR s q P) i) = true) →
      (isSt (47 + q) Y → (t.aft (.tuple [.agg ((stY Y (n8 (sh Y 22) - 1)).row (.gsl 0 (n1 (sh Y 46)).toNat)), .int .i64 0]) [.seq 1 (n1 (sh Y 46)).toNat (pk Y)]).ok Tryz.prog o lp n0 R) ∧ (¬ isSt (47 + q) Y → (t.aft (.tuple [.agg lpZ, .int .i64 5]) []).ok Tryz.prog o lp n0 R)) : t.ok Tryz.prog o lp n0 R := by
  have h : ∀ i, (setRow k 0 [AV.sint .u8 x] (rowR s q P) i).map sI = (by8 (yB s q P k x) i).map sI ∧ nfs (setRow k 0 [AV.sint .u8 x] (rowR s q P) i) = true := fun i => ⟨by rw [by_B s q P k hx], by rw [set_row]; rfl⟩
  exact get_own (yB s q P k x) hd hs hm (fun i _ => h i) (by omega) (hk _ h).1 (hk _ h).2
theorem rget_own {b m m0 : Nat} {f' : Nat → List AV} (y : Nat → Nat) (hd : t.hd = .call 11 [.gsl b m]) (hs : seqAt t.heap b = some (1, m0, f')) (hm : m ≤ m0) (hf : ∀ i, i < m → (f' i).map sI = (by8 y i).map sI ∧ nfs (f' i) = true) (hn : m ≤ 5000)
    (hy : isSt m y → (t.aft (.tuple [.agg ((stY y (n8 (sh y 22) - 1)).row (.gsl 0 (n1 (sh y 46)).toNat)), .int .i64 0]) [.seq 1 (n1 (sh y 46)).toNat (pk y)]).ok Tryz.prog o lp n0 R) (hno : ¬ isSt m y → (t.aft (.tuple [.agg lpZ, .int .i64 5]) []).ok Tryz.prog o lp n0 R) : t.ok Tryz.prog o lp n0 R := by
  refine ok_call hd (runs_ext (g := by8 y) (fun i hi => (hf i hi).1) (rgetT m y hn)) ⟨⟨rfl, m0, f', hs, hm, fun i hi => ⟨rfl, (hf i hi).2⟩⟩, trivial⟩ fun x G h => ?_
  rcases h with ⟨h, rfl, rfl⟩ | ⟨h, rfl, rfl⟩
  · exact ⟨rfl, fun g hg => (by rcases List.mem_singleton.1 hg with rfl; exact fun _ _ => rfl), hy h⟩
  · exact ⟨rfl, fun g hg => (by cases hg), hno h⟩
theorem get_zero {b cap : Nat} {ex : Bool} {g : Option Nat} {cs : List AV} (hd : t.hd = .call 10 [.slice b 0 0 cap ex]) (hs : cellsAt t.heap b = some (g, cs)) (hk : (t.aft (.tuple [.agg lpZ, .int .i64 5]) []).ok Tryz.prog o lp n0 R) : t.ok Tryz.prog o lp n0 R := by
  refine ok_call hd (tget 0 (fun _ => 0) (by omega)) ⟨⟨rfl, Nat.zero_le _, g, cs, hs, by simp, fun i hi => absurd hi (Nat.not_lt_zero i)⟩, trivial⟩ fun x G h => ?_
  rcases h with ⟨h, rfl, rfl⟩ | ⟨h, rfl, rfl⟩
  · have := h.1
    omega
  · exact ⟨rfl, fun g hg => (by cases hg), hk⟩
theorem rget_zero {b cap : Nat} {ex : Bool} {g : Option Nat} {cs : List AV} (hd : t.hd = .call 11 [.slice b 0 0 cap ex]) (hs : cellsAt t.heap b = some (g, cs)) (hk : (t.aft (.tuple [.agg lpZ, .int .i64 5]) []).ok Tryz.prog o lp n0 R) : t.ok Tryz.prog o lp n0 R := by
  refine ok_call hd (rgetT 0 (fun _ => 0) (by omega)) ⟨⟨rfl, Nat.zero_le _, g, cs, hs, by simp, fun i hi => absurd hi (Nat.not_lt_zero i)⟩, trivial⟩ fun x G h => ?_
  rcases h with ⟨h, rfl, rfl⟩ | ⟨h, rfl, rfl⟩
  · have := h.1
    omega
  · exact ⟨rfl, fun g hg => (by cases hg), hk⟩
theorem same_own {b b' : Nat} {Y : Nat → Nat} (hd : t.hd = .call 12 [.agg ((stY Y (n8 (sh Y 22) - 1)).row (.gsl b (n1 (sh Y 46)).toNat)), .agg ((stY Y (n8 (sh Y 22) - 1)).row (.gsl b' (n1 (sh Y 46)).toNat))]) (h0 : seqAt t.heap b = some (1, (n1 (sh Y 46)).toNat, pk Y)) (h1 : seqAt t.heap b' = some (1, (n1 (sh Y 46)).toNat, pk Y))
    (hk : (t.aft (.bool true) []).ok Tryz.prog o lp n0 R) : t.ok Tryz.prog o lp n0 R := by
  have b46 := n1_bd (sh Y 46)
  refine ok_call hd (tsame _ _ _ _ (pkI Y) (pkI Y) (by omega) (by omega)) ⟨(st_view (s := stY Y (n8 (sh Y 22) - 1)) h0 (Nat.le_refl _) (fun j hj => rfl)).1, (st_view (s := stY Y (n8 (sh Y 22) - 1)) h1 (Nat.le_refl _) (fun j hj => rfl)).1, trivial⟩ fun x G h => ?_
  rcases h with ⟨rfl, ⟨rfl, sm⟩ | ⟨rfl, sm⟩⟩
  · exact ⟨rfl, fun g hg => (by cases hg), hk⟩
  · exact absurd ⟨rfl, rfl, fun j hj => rfl⟩ sm
theorem lpZ_view {H : AH} : view H (.agg lpZ) (.agg ((⟨0, 0, 0, 0, 0, 0, 0, 0, 0, 0, 0⟩ : StI).row (ints 0 fun _ => 0))) :=
  ⟨⟨rfl, rfl⟩, ⟨rfl, rfl⟩, ⟨rfl, rfl⟩, ⟨rfl, rfl⟩, ⟨rfl, rfl⟩, ⟨rfl, rfl⟩, ⟨rfl, rfl⟩, ⟨rfl, rfl⟩, ⟨rfl, rfl⟩, ⟨rfl, rfl⟩, ⟨rfl, rfl⟩, rfl, trivial⟩
theorem same_zero (hd : t.hd = .call 12 [.agg lpZ, .agg lpZ]) (hk : (t.aft (.bool true) []).ok Tryz.prog o lp n0 R) : t.ok Tryz.prog o lp n0 R := by
  refine ok_call hd (tsame _ _ 0 0 (fun _ => 0) (fun _ => 0) (by omega) (by omega)) ⟨lpZ_view, lpZ_view, trivial⟩ fun x G h => ?_
  rcases h with ⟨rfl, ⟨rfl, sm⟩ | ⟨rfl, sm⟩⟩
  · exact ⟨rfl, fun g hg => (by cases hg), hk⟩
  · exact absurd ⟨rfl, rfl, fun j hj => rfl⟩ sm
end
theorem tputR (s : StI) (q : Nat) (P : Nat → Int) (hq : q ≤ 1099511627776) (hr : s.rng) : Runs Tryz.prog 6 [.agg (s.row (ints q P))] fun x G => (x = .nilSlice ∧ G = [] ∧ ¬ s.may q P) ∨ (s.may q P ∧ x = .gsl 0 (47 + q) ∧ G = [.seq 1 (47 + q) (rowR s q P)]) := tput s q P hq hr
theorem rputR (s : StI) (q : Nat) (P : Nat → Int) (hq : q ≤ 1099511627776) (hr : s.rng) : Runs Tryz.prog 9 [.agg (s.row (ints q P))] fun x G => (x = .nilSlice ∧ G = [] ∧ ¬ s.may q P) ∨ (s.may q P ∧ x = .gsl 0 (47 + q) ∧ G = [.seq 1 (47 + q) (rowR s q P)]) := rputT s q P hq hr
theorem law29 (W : Runs Tryz.prog 5 [] fun x G => x = .bool true ∧ G = []) (s : StI) (q : Nat) (P : Nat → Int) (hq : q ≤ 9223372036854775807) (hr : s.rng) (n : Nat) (y : Nat → Nat) (hn : n ≤ 9223372036854775807) (c : Int) (hc : 0 ≤ c ∧ c ≤ 65535) (b : Int) (hb8 : 0 ≤ b ∧ b ≤ 255) : Runs Tryz.prog 3 [.agg (s.row (ints q P)), .data 1 n (by8 y), .sint .u16 c, .sint .u8 b] fun x G => x = .bool true ∧ G = [] := by
  have ht : 0 ≤ c.tmod ((47 + q : Nat) : Int) ∧ c.tmod ((47 + q : Nat) : Int) < ((47 + q : Nat) : Int) := by
    rw [Int.tmod_eq_emod_of_nonneg hc.1]
    exact ⟨Int.emod_nonneg _ (by omega), Int.emod_lt_of_pos _ (by omega)⟩
  refine runs_treeF plain mixed (fun g => Nat.beq g 7 || Nat.beq g 6 || Nat.beq g 10 || Nat.beq g 8 || Nat.beq g 9 || Nat.beq g 11 || Nat.beq g 12 || Nat.beq g 5) (fun _ => false) 80 ?_
  refine ok_sk (.both (.stop []) (.both (.stop []) (.stop []))) (S := .fork (decide (300 < (↑q : Int))) (.stop (Hd.call 5 []) [] ([])) (.fork (decide (4000 < (↑n : Int))) (.stop (Hd.call 5 []) [] ([])) (.stop (Hd.call 6 [.agg (s.row (ints q P))]) [] ([])))) (by kernel_rfl) ?_
  refine hold_forkD (fun h0 => ?_) (fun h0 => ?_)
  ·
   refine hold_stop (fun hd hb => ?_)
   refine ok_call0 hd W rfl ?_
   rintro x G ⟨rfl, rfl⟩
   refine ⟨rfl, fun g hg => (by cases hg), ?_⟩
   refine ok_sk (.stop []) (S := .stop (Hd.leaf (.bool true)) [] ([])) (by kernel_rfl) ?_
   refine hold_stop (fun hd hb => ?_)
   exact ok_leaf0 hd rfl ⟨rfl, rfl⟩
  refine hold_forkD (fun h1 => ?_) (fun h1 => ?_)
  ·
   refine hold_stop (fun hd hb => ?_)
   refine ok_call0 hd W rfl ?_
   rintro x G ⟨rfl, rfl⟩
   refine ⟨rfl, fun g hg => (by cases hg), ?_⟩
   refine ok_sk (.stop []) (S := .stop (Hd.leaf (.bool true)) [] ([])) (by kernel_rfl) ?_
   refine hold_stop (fun hd hb => ?_)
   exact ok_leaf0 hd rfl ⟨rfl, rfl⟩
  refine hold_stop (fun hd hb => ?_)
  refine ok_call0 hd (tputR s q P (by omega) hr) rfl ?_
  rintro x G (⟨rfl, rfl, mp⟩ | ⟨mp, rfl, rfl⟩) <;> first | (have mq := mp.1.2.2.2; refine ⟨rfl, fun g hg => (by rcases List.mem_singleton.1 hg with rfl; exact fun _ _ => rfl), ?_⟩) | refine ⟨rfl, fun g hg => (by cases hg), ?_⟩
  ·
   refine ok_sk (.stop []) (S := .stop (Hd.call 7 [.agg (s.row (ints q P))]) [] ([])) (by kernel_rfl) ?_
   refine hold_stop (fun hd hb => ?_)
   refine ok_call0 hd (tmay s q P (by omega) hr.1.1) rfl ?_
   rintro x G ⟨rfl, ⟨rfl, my⟩ | ⟨rfl, my⟩⟩ <;> refine ⟨rfl, fun g hg => (by cases hg), ?_⟩
   ·
    refine ok_sk (.l (.l (.l (.l (.l (.l (.l (.l (.l (.l (.l (.l (.stop []))))))))))))) (S := .left (decide (s.d = s.d)) (.left (decide (s.w = s.w)) (.left (decide (s.k = s.k)) (.left (decide (s.n = s.n)) (.left (decide (s.t = s.t)) (.left (decide (s.a = s.a)) (.left (decide (s.r = s.r)) (.left (decide (s.o = s.o)) (.left (decide (s.K = s.K)) (.left (decide (s.J = s.J)) (.left (decide (s.N = s.N)) (.left (@decide (s3 (q) (fun (i : Nat) => [.sint .i64 (P i)])) pd) (.stop (Hd.call 8 [.agg (s.row (ints q P))]) [] ([])))))))))))))) (by kernel_rfl) ?_
    refine hl (bc fun h4 => by omega) ?_
    refine hl (bc fun h4 => by omega) ?_
    refine hl (bc fun h4 => by omega) ?_
    refine hl (bc fun h4 => by omega) ?_
    refine hl (bc fun h4 => by omega) ?_
    refine hl (bc fun h4 => by omega) ?_
    refine hl (bc fun h4 => by omega) ?_
    refine hl (bc fun h4 => by omega) ?_
    refine hl (bc fun h4 => by omega) ?_
    refine hl (bc fun h4 => by omega) ?_
    refine hl (bc fun h4 => by omega) ?_
    refine hl (bc fun h4 => by exact h4 ⟨rfl, rfl, rfl⟩) ?_
    refine hold_stop (fun hd hb => ?_)
    refine ok_call0 hd (rmayT s q P (by omega) hr) rfl ?_
    rintro x G ⟨rfl, ⟨rfl, mz⟩ | ⟨rfl, mz⟩⟩ <;> refine ⟨rfl, fun g hg => (by cases hg), ?_⟩
    ·
     refine ok_sk (.stop []) (S := .stop (Hd.call 9 [.agg (s.row (ints q P))]) [] ([])) (by kernel_rfl) ?_
     refine hold_stop (fun hd hb => ?_)
     refine ok_call0 hd (rputR s q P (by omega) hr) rfl ?_
     rintro x G (⟨rfl, rfl, mw⟩ | ⟨mw, rfl, rfl⟩) <;> first | refine ⟨rfl, fun g hg => (by rcases List.mem_singleton.1 hg with rfl; exact fun _ _ => rfl), ?_⟩ | refine ⟨rfl, fun g hg => (by cases hg), ?_⟩
     ·
      refine ok_sk (.l (.l (.l (.stop [4])))) (S := .left (decide (([] : List Nat) = [])) (.left (decide (([] : List Nat) = [])) (.left (@decide (n < 65536 ∧ RowsOK 1 n (by8 y)) pd) (.stop (Hd.call 10 [.gsl 4 n]) [4] ([(some (Blk.seq 4 1 n (by8 y)), some (1, n, by8 y))]))))) (by kernel_rfl) ?_
      refine hl (bc fun h6 => by exact h6 rfl) ?_
      refine hl (bc fun h6 => by exact h6 rfl) ?_
      refine hl (bc fun h6 => by exact h6 ⟨by omega, fun i hi => ⟨rfl, rfl⟩⟩) ?_
      refine hold_stop (fun hd hb => ?_)
      refine get_own y hd (look_get hb 0 rfl rfl).2 (Nat.le_refl _) (fun i hi => ⟨rfl, rfl⟩) (by omega) (fun iy => ?_) (fun iy => ?_)
      ·
       refine ok_sk (.stop []) (S := .stop (Hd.call 11 [.data 1 n (by8 y)]) [] ([])) (by kernel_rfl) ?_
       refine hold_stop (fun hd hb => ?_)
       refine ok_call0 hd (rgetT n y (by omega)) rfl ?_
       rintro x G (⟨iz, rfl, rfl⟩ | ⟨iz, rfl, rfl⟩) <;> first | refine ⟨rfl, fun g hg => (by rcases List.mem_singleton.1 hg with rfl; exact fun _ _ => rfl), ?_⟩ | refine ⟨rfl, fun g hg => (by cases hg), ?_⟩
       ·
        refine ok_sk (.stop [5, 7]) (S := .stop (Hd.call 12 [.agg [.sint .u8 (stY y (n8 (sh y 22) - 1)).d, .sint .i64 (stY y (n8 (sh y 22) - 1)).w, .sint .u8 (stY y (n8 (sh y 22) - 1)).k, .sint .u64 (stY y (n8 (sh y 22) - 1)).n, .sint .i64 (stY y (n8 (sh y 22) - 1)).t, .sint .i64 (stY y (n8 (sh y 22) - 1)).a, .sint .u64 (stY y (n8 (sh y 22) - 1)).r, .sint .u64 (stY y (n8 (sh y 22) - 1)).o, .sint .i64 (stY y (n8 (sh y 22) - 1)).K, .sint .i64 (stY y (n8 (sh y 22) - 1)).J, .sint .i64 (stY y (n8 (sh y 22) - 1)).N, .gsl 5 (n1 (sh y 46)).toNat], .agg [.sint .u8 (stY y (n8 (sh y 22) - 1)).d, .sint .i64 (stY y (n8 (sh y 22) - 1)).w, .sint .u8 (stY y (n8 (sh y 22) - 1)).k, .sint .u64 (stY y (n8 (sh y 22) - 1)).n, .sint .i64 (stY y (n8 (sh y 22) - 1)).t, .sint .i64 (stY y (n8 (sh y 22) - 1)).a, .sint .u64 (stY y (n8 (sh y 22) - 1)).r, .sint .u64 (stY y (n8 (sh y 22) - 1)).o, .sint .i64 (stY y (n8 (sh y 22) - 1)).K, .sint .i64 (stY y (n8 (sh y 22) - 1)).J, .sint .i64 (stY y (n8 (sh y 22) - 1)).N, .gsl 7 (n1 (sh y 46)).toNat]]) [5, 7] ([(some (Blk.seq 5 1 (n1 (sh y 46)).toNat (pk y)), some (1, (n1 (sh y 46)).toNat, pk y)), (some (Blk.seq 7 1 (n1 (sh y 46)).toNat (pk y)), some (1, (n1 (sh y 46)).toNat, pk y))])) (by kernel_rfl) ?_
        refine hold_stop (fun hd hb => ?_)
        refine same_own hd (look_get hb 0 rfl rfl).2 (look_get hb 1 rfl rfl).2 ?_
        refine ok_sk (.l (.l (.l (.stop [9])))) (S := .left (@decide (n ≤ n ∧ AllBytes n (by8 y)) pd) (.left (@decide (AllBytes n (by8 y)) pd) (.left (decide (bytesOf n (by8 y) = bytesOf n (by8 y))) (.stop (Hd.call 10 [.slice 9 0 0 0 true]) [9] ([bk 9 []]))))) (by kernel_rfl) ?_
        refine hl (bc fun h9 => by exact h9 ⟨Nat.le_refl _, all_by8 _ _⟩) ?_
        refine hl (bc fun h9 => by exact h9 (all_by8 _ _)) ?_
        refine hl (bc fun h9 => by exact h9 rfl) ?_
        refine hold_stop (fun hd hb => ?_)
        refine get_zero hd (look_cells hb) ?_
        refine ok_sk (.stop [1]) (S := .stop (Hd.call 11 [.slice 1 0 0 0 true]) [1] ([bk 1 []])) (by kernel_rfl) ?_
        refine hold_stop (fun hd hb => ?_)
        refine rget_zero hd (look_cells hb) ?_
        refine ok_sk (.stop []) (S := .stop (Hd.call 12 [.agg lpZ, .agg lpZ]) [] ([])) (by kernel_rfl) ?_
        refine hold_stop (fun hd hb => ?_)
        refine same_zero hd ?_
        refine ok_sk (.l (.stop [])) (S := .left (decide (([] : List Nat) = [])) (.stop (Hd.call 5 []) [] ([]))) (by kernel_rfl) ?_
        refine hl (bc fun h12 => by exact h12 rfl) ?_
        refine hold_stop (fun hd hb => ?_)
        refine ok_call0 hd W rfl ?_
        rintro x G ⟨rfl, rfl⟩
        refine ⟨rfl, fun g hg => (by cases hg), ?_⟩
        refine ok_sk (.stop []) (S := .stop (Hd.leaf (.bool true)) [] ([])) (by kernel_rfl) ?_
        refine hold_stop (fun hd hb => ?_)
        exact ok_leaf0 hd rfl ⟨rfl, rfl⟩
       refine ok_sk (.stop []) (S := .stop (Hd.leaf (.bool false)) [] ([])) (by kernel_rfl) ?_
       refine hold_stop (fun hd hb => ?_)
       exact absurd my mp
      refine ok_sk (.stop []) (S := .stop (Hd.call 11 [.data 1 n (by8 y)]) [] ([])) (by kernel_rfl) ?_
      refine hold_stop (fun hd hb => ?_)
      refine ok_call0 hd (rgetT n y (by omega)) rfl ?_
      rintro x G (⟨iz, rfl, rfl⟩ | ⟨iz, rfl, rfl⟩) <;> first | refine ⟨rfl, fun g hg => (by rcases List.mem_singleton.1 hg with rfl; exact fun _ _ => rfl), ?_⟩ | refine ⟨rfl, fun g hg => (by cases hg), ?_⟩
      ·
       refine ok_sk (.stop []) (S := .stop (Hd.leaf (.bool false)) [] ([])) (by kernel_rfl) ?_
       refine hold_stop (fun hd hb => ?_)
       exact absurd my mp
      refine ok_sk (.stop []) (S := .stop (Hd.call 12 [.agg lpZ, .agg lpZ]) [] ([])) (by kernel_rfl) ?_
      refine hold_stop (fun hd hb => ?_)
      refine same_zero hd ?_
      refine ok_sk (.l (.l (.l (.stop [7])))) (S := .left (@decide (n ≤ n ∧ AllBytes n (by8 y)) pd) (.left (@decide (AllBytes n (by8 y)) pd) (.left (decide (bytesOf n (by8 y) = bytesOf n (by8 y))) (.stop (Hd.call 10 [.slice 7 0 0 0 true]) [7] ([bk 7 []]))))) (by kernel_rfl) ?_
      refine hl (bc fun h9 => by exact h9 ⟨Nat.le_refl _, all_by8 _ _⟩) ?_
      refine hl (bc fun h9 => by exact h9 (all_by8 _ _)) ?_
      refine hl (bc fun h9 => by exact h9 rfl) ?_
      refine hold_stop (fun hd hb => ?_)
      refine get_zero hd (look_cells hb) ?_
      refine ok_sk (.stop [1]) (S := .stop (Hd.call 11 [.slice 1 0 0 0 true]) [1] ([bk 1 []])) (by kernel_rfl) ?_
      refine hold_stop (fun hd hb => ?_)
      refine rget_zero hd (look_cells hb) ?_
      refine ok_sk (.stop []) (S := .stop (Hd.call 12 [.agg lpZ, .agg lpZ]) [] ([])) (by kernel_rfl) ?_
      refine hold_stop (fun hd hb => ?_)
      refine same_zero hd ?_
      refine ok_sk (.l (.stop [])) (S := .left (decide (([] : List Nat) = [])) (.stop (Hd.call 5 []) [] ([]))) (by kernel_rfl) ?_
      refine hl (bc fun h12 => by exact h12 rfl) ?_
      refine hold_stop (fun hd hb => ?_)
      refine ok_call0 hd W rfl ?_
      rintro x G ⟨rfl, rfl⟩
      refine ⟨rfl, fun g hg => (by cases hg), ?_⟩
      refine ok_sk (.stop []) (S := .stop (Hd.leaf (.bool true)) [] ([])) (by kernel_rfl) ?_
      refine hold_stop (fun hd hb => ?_)
      exact ok_leaf0 hd rfl ⟨rfl, rfl⟩
     refine ok_sk (.l (.l (.both (.l (.stop [5])) (.stop [])))) (S := .left (decide (([] : List Nat) = [])) (.left (@decide (47 + q ≤ 47 + q ∧ AllBytes (47 + q) (rowR s q P)) pd) (.fork (decide ([] = bytesOf (47 + q) (rowR s q P))) (.left (@decide (n < 65536 ∧ RowsOK 1 n (by8 y)) pd) (.stop (Hd.call 10 [.gsl 5 n]) [5] ([(some (Blk.seq 5 1 n (by8 y)), some (1, n, by8 y))]))) (.stop (Hd.leaf (.bool false)) [] ([]))))) (by kernel_rfl) ?_
     refine hl (bc fun h6 => by exact h6 rfl) ?_
     refine hl (bc fun h6 => by exact h6 ⟨Nat.le_refl _, all_rowR _ _ _ _⟩) ?_
     refine hold_forkD (fun h6 => ?_) (fun h6 => ?_)
     ·
      refine hl (bc fun h7 => by exact h7 ⟨by omega, fun i hi => ⟨rfl, rfl⟩⟩) ?_
      refine hold_stop (fun hd hb => ?_)
      refine get_own y hd (look_get hb 0 rfl rfl).2 (Nat.le_refl _) (fun i hi => ⟨rfl, rfl⟩) (by omega) (fun iy => ?_) (fun iy => ?_)
      ·
       refine ok_sk (.stop []) (S := .stop (Hd.call 11 [.data 1 n (by8 y)]) [] ([])) (by kernel_rfl) ?_
       refine hold_stop (fun hd hb => ?_)
       refine ok_call0 hd (rgetT n y (by omega)) rfl ?_
       rintro x G (⟨iz, rfl, rfl⟩ | ⟨iz, rfl, rfl⟩) <;> first | refine ⟨rfl, fun g hg => (by rcases List.mem_singleton.1 hg with rfl; exact fun _ _ => rfl), ?_⟩ | refine ⟨rfl, fun g hg => (by cases hg), ?_⟩
       ·
        refine ok_sk (.stop [6, 8]) (S := .stop (Hd.call 12 [.agg [.sint .u8 (stY y (n8 (sh y 22) - 1)).d, .sint .i64 (stY y (n8 (sh y 22) - 1)).w, .sint .u8 (stY y (n8 (sh y 22) - 1)).k, .sint .u64 (stY y (n8 (sh y 22) - 1)).n, .sint .i64 (stY y (n8 (sh y 22) - 1)).t, .sint .i64 (stY y (n8 (sh y 22) - 1)).a, .sint .u64 (stY y (n8 (sh y 22) - 1)).r, .sint .u64 (stY y (n8 (sh y 22) - 1)).o, .sint .i64 (stY y (n8 (sh y 22) - 1)).K, .sint .i64 (stY y (n8 (sh y 22) - 1)).J, .sint .i64 (stY y (n8 (sh y 22) - 1)).N, .gsl 6 (n1 (sh y 46)).toNat], .agg [.sint .u8 (stY y (n8 (sh y 22) - 1)).d, .sint .i64 (stY y (n8 (sh y 22) - 1)).w, .sint .u8 (stY y (n8 (sh y 22) - 1)).k, .sint .u64 (stY y (n8 (sh y 22) - 1)).n, .sint .i64 (stY y (n8 (sh y 22) - 1)).t, .sint .i64 (stY y (n8 (sh y 22) - 1)).a, .sint .u64 (stY y (n8 (sh y 22) - 1)).r, .sint .u64 (stY y (n8 (sh y 22) - 1)).o, .sint .i64 (stY y (n8 (sh y 22) - 1)).K, .sint .i64 (stY y (n8 (sh y 22) - 1)).J, .sint .i64 (stY y (n8 (sh y 22) - 1)).N, .gsl 8 (n1 (sh y 46)).toNat]]) [6, 8] ([(some (Blk.seq 6 1 (n1 (sh y 46)).toNat (pk y)), some (1, (n1 (sh y 46)).toNat, pk y)), (some (Blk.seq 8 1 (n1 (sh y 46)).toNat (pk y)), some (1, (n1 (sh y 46)).toNat, pk y))])) (by kernel_rfl) ?_
        refine hold_stop (fun hd hb => ?_)
        refine same_own hd (look_get hb 0 rfl rfl).2 (look_get hb 1 rfl rfl).2 ?_
        refine ok_sk (.l (.l (.l (.stop [10])))) (S := .left (@decide (n ≤ n ∧ AllBytes n (by8 y)) pd) (.left (@decide (AllBytes n (by8 y)) pd) (.left (decide (bytesOf n (by8 y) = bytesOf n (by8 y))) (.stop (Hd.call 10 [.slice 10 0 0 0 true]) [10] ([bk 10 []]))))) (by kernel_rfl) ?_
        refine hl (bc fun h10 => by exact h10 ⟨Nat.le_refl _, all_by8 _ _⟩) ?_
        refine hl (bc fun h10 => by exact h10 (all_by8 _ _)) ?_
        refine hl (bc fun h10 => by exact h10 rfl) ?_
        refine hold_stop (fun hd hb => ?_)
        refine get_zero hd (look_cells hb) ?_
        refine ok_sk (.stop [2]) (S := .stop (Hd.call 11 [.slice 2 0 0 0 true]) [2] ([bk 2 []])) (by kernel_rfl) ?_
        refine hold_stop (fun hd hb => ?_)
        refine rget_zero hd (look_cells hb) ?_
        refine ok_sk (.stop []) (S := .stop (Hd.call 12 [.agg lpZ, .agg lpZ]) [] ([])) (by kernel_rfl) ?_
        refine hold_stop (fun hd hb => ?_)
        refine same_zero hd ?_
        refine ok_sk (.l (.stop [])) (S := .left (decide (([] : List Nat) = [])) (.stop (Hd.call 5 []) [] ([]))) (by kernel_rfl) ?_
        refine hl (bc fun h13 => by exact h13 rfl) ?_
        refine hold_stop (fun hd hb => ?_)
        refine ok_call0 hd W rfl ?_
        rintro x G ⟨rfl, rfl⟩
        refine ⟨rfl, fun g hg => (by cases hg), ?_⟩
        refine ok_sk (.stop []) (S := .stop (Hd.leaf (.bool true)) [] ([])) (by kernel_rfl) ?_
        refine hold_stop (fun hd hb => ?_)
        exact ok_leaf0 hd rfl ⟨rfl, rfl⟩
       refine ok_sk (.stop []) (S := .stop (Hd.leaf (.bool false)) [] ([])) (by kernel_rfl) ?_
       refine hold_stop (fun hd hb => ?_)
       exact absurd my mp
      refine ok_sk (.stop []) (S := .stop (Hd.call 11 [.data 1 n (by8 y)]) [] ([])) (by kernel_rfl) ?_
      refine hold_stop (fun hd hb => ?_)
      refine ok_call0 hd (rgetT n y (by omega)) rfl ?_
      rintro x G (⟨iz, rfl, rfl⟩ | ⟨iz, rfl, rfl⟩) <;> first | refine ⟨rfl, fun g hg => (by rcases List.mem_singleton.1 hg with rfl; exact fun _ _ => rfl), ?_⟩ | refine ⟨rfl, fun g hg => (by cases hg), ?_⟩
      ·
       refine ok_sk (.stop []) (S := .stop (Hd.leaf (.bool false)) [] ([])) (by kernel_rfl) ?_
       refine hold_stop (fun hd hb => ?_)
       exact absurd my mp
      refine ok_sk (.stop []) (S := .stop (Hd.call 12 [.agg lpZ, .agg lpZ]) [] ([])) (by kernel_rfl) ?_
      refine hold_stop (fun hd hb => ?_)
      refine same_zero hd ?_
      refine ok_sk (.l (.l (.l (.stop [8])))) (S := .left (@decide (n ≤ n ∧ AllBytes n (by8 y)) pd) (.left (@decide (AllBytes n (by8 y)) pd) (.left (decide (bytesOf n (by8 y) = bytesOf n (by8 y))) (.stop (Hd.call 10 [.slice 8 0 0 0 true]) [8] ([bk 8 []]))))) (by kernel_rfl) ?_
      refine hl (bc fun h10 => by exact h10 ⟨Nat.le_refl _, all_by8 _ _⟩) ?_
      refine hl (bc fun h10 => by exact h10 (all_by8 _ _)) ?_
      refine hl (bc fun h10 => by exact h10 rfl) ?_
      refine hold_stop (fun hd hb => ?_)
      refine get_zero hd (look_cells hb) ?_
      refine ok_sk (.stop [2]) (S := .stop (Hd.call 11 [.slice 2 0 0 0 true]) [2] ([bk 2 []])) (by kernel_rfl) ?_
      refine hold_stop (fun hd hb => ?_)
      refine rget_zero hd (look_cells hb) ?_
      refine ok_sk (.stop []) (S := .stop (Hd.call 12 [.agg lpZ, .agg lpZ]) [] ([])) (by kernel_rfl) ?_
      refine hold_stop (fun hd hb => ?_)
      refine same_zero hd ?_
      refine ok_sk (.l (.stop [])) (S := .left (decide (([] : List Nat) = [])) (.stop (Hd.call 5 []) [] ([]))) (by kernel_rfl) ?_
      refine hl (bc fun h13 => by exact h13 rfl) ?_
      refine hold_stop (fun hd hb => ?_)
      refine ok_call0 hd W rfl ?_
      rintro x G ⟨rfl, rfl⟩
      refine ⟨rfl, fun g hg => (by cases hg), ?_⟩
      refine ok_sk (.stop []) (S := .stop (Hd.leaf (.bool true)) [] ([])) (by kernel_rfl) ?_
      refine hold_stop (fun hd hb => ?_)
      exact ok_leaf0 hd rfl ⟨rfl, rfl⟩
     refine hold_stop (fun hd hb => ?_)
     exact absurd my mp
    refine ok_sk (.stop []) (S := .stop (Hd.leaf (.bool false)) [] ([])) (by kernel_rfl) ?_
    refine hold_stop (fun hd hb => ?_)
    exact absurd my mp
   refine ok_sk (.l (.l (.l (.l (.l (.l (.l (.l (.l (.l (.l (.l (.stop []))))))))))))) (S := .left (decide (s.d = s.d)) (.left (decide (s.w = s.w)) (.left (decide (s.k = s.k)) (.left (decide (s.n = s.n)) (.left (decide (s.t = s.t)) (.left (decide (s.a = s.a)) (.left (decide (s.r = s.r)) (.left (decide (s.o = s.o)) (.left (decide (s.K = s.K)) (.left (decide (s.J = s.J)) (.left (decide (s.N = s.N)) (.left (@decide (s3 (q) (fun (i : Nat) => [.sint .i64 (P i)])) pd) (.stop (Hd.call 8 [.agg (s.row (ints q P))]) [] ([])))))))))))))) (by kernel_rfl) ?_
   refine hl (bc fun h4 => by omega) ?_
   refine hl (bc fun h4 => by omega) ?_
   refine hl (bc fun h4 => by omega) ?_
   refine hl (bc fun h4 => by omega) ?_
   refine hl (bc fun h4 => by omega) ?_
   refine hl (bc fun h4 => by omega) ?_
   refine hl (bc fun h4 => by omega) ?_
   refine hl (bc fun h4 => by omega) ?_
   refine hl (bc fun h4 => by omega) ?_
   refine hl (bc fun h4 => by omega) ?_
   refine hl (bc fun h4 => by omega) ?_
   refine hl (bc fun h4 => by exact h4 ⟨rfl, rfl, rfl⟩) ?_
   refine hold_stop (fun hd hb => ?_)
   refine ok_call0 hd (rmayT s q P (by omega) hr) rfl ?_
   rintro x G ⟨rfl, ⟨rfl, mz⟩ | ⟨rfl, mz⟩⟩ <;> refine ⟨rfl, fun g hg => (by cases hg), ?_⟩
   ·
    refine ok_sk (.stop []) (S := .stop (Hd.leaf (.bool false)) [] ([])) (by kernel_rfl) ?_
    refine hold_stop (fun hd hb => ?_)
    exact absurd mz my
   refine ok_sk (.stop []) (S := .stop (Hd.call 9 [.agg (s.row (ints q P))]) [] ([])) (by kernel_rfl) ?_
   refine hold_stop (fun hd hb => ?_)
   refine ok_call0 hd (rputR s q P (by omega) hr) rfl ?_
   rintro x G (⟨rfl, rfl, mw⟩ | ⟨mw, rfl, rfl⟩) <;> first | refine ⟨rfl, fun g hg => (by rcases List.mem_singleton.1 hg with rfl; exact fun _ _ => rfl), ?_⟩ | refine ⟨rfl, fun g hg => (by cases hg), ?_⟩
   ·
    refine ok_sk (.l (.l (.l (.stop [4])))) (S := .left (decide (([] : List Nat) = [])) (.left (decide (([] : List Nat) = [])) (.left (@decide (n < 65536 ∧ RowsOK 1 n (by8 y)) pd) (.stop (Hd.call 10 [.gsl 4 n]) [4] ([(some (Blk.seq 4 1 n (by8 y)), some (1, n, by8 y))]))))) (by kernel_rfl) ?_
    refine hl (bc fun h6 => by exact h6 rfl) ?_
    refine hl (bc fun h6 => by exact h6 rfl) ?_
    refine hl (bc fun h6 => by exact h6 ⟨by omega, fun i hi => ⟨rfl, rfl⟩⟩) ?_
    refine hold_stop (fun hd hb => ?_)
    refine get_own y hd (look_get hb 0 rfl rfl).2 (Nat.le_refl _) (fun i hi => ⟨rfl, rfl⟩) (by omega) (fun iy => ?_) (fun iy => ?_)
    ·
     refine ok_sk (.stop []) (S := .stop (Hd.call 11 [.data 1 n (by8 y)]) [] ([])) (by kernel_rfl) ?_
     refine hold_stop (fun hd hb => ?_)
     refine ok_call0 hd (rgetT n y (by omega)) rfl ?_
     rintro x G (⟨iz, rfl, rfl⟩ | ⟨iz, rfl, rfl⟩) <;> first | refine ⟨rfl, fun g hg => (by rcases List.mem_singleton.1 hg with rfl; exact fun _ _ => rfl), ?_⟩ | refine ⟨rfl, fun g hg => (by cases hg), ?_⟩
     ·
      refine ok_sk (.stop [5, 7]) (S := .stop (Hd.call 12 [.agg [.sint .u8 (stY y (n8 (sh y 22) - 1)).d, .sint .i64 (stY y (n8 (sh y 22) - 1)).w, .sint .u8 (stY y (n8 (sh y 22) - 1)).k, .sint .u64 (stY y (n8 (sh y 22) - 1)).n, .sint .i64 (stY y (n8 (sh y 22) - 1)).t, .sint .i64 (stY y (n8 (sh y 22) - 1)).a, .sint .u64 (stY y (n8 (sh y 22) - 1)).r, .sint .u64 (stY y (n8 (sh y 22) - 1)).o, .sint .i64 (stY y (n8 (sh y 22) - 1)).K, .sint .i64 (stY y (n8 (sh y 22) - 1)).J, .sint .i64 (stY y (n8 (sh y 22) - 1)).N, .gsl 5 (n1 (sh y 46)).toNat], .agg [.sint .u8 (stY y (n8 (sh y 22) - 1)).d, .sint .i64 (stY y (n8 (sh y 22) - 1)).w, .sint .u8 (stY y (n8 (sh y 22) - 1)).k, .sint .u64 (stY y (n8 (sh y 22) - 1)).n, .sint .i64 (stY y (n8 (sh y 22) - 1)).t, .sint .i64 (stY y (n8 (sh y 22) - 1)).a, .sint .u64 (stY y (n8 (sh y 22) - 1)).r, .sint .u64 (stY y (n8 (sh y 22) - 1)).o, .sint .i64 (stY y (n8 (sh y 22) - 1)).K, .sint .i64 (stY y (n8 (sh y 22) - 1)).J, .sint .i64 (stY y (n8 (sh y 22) - 1)).N, .gsl 7 (n1 (sh y 46)).toNat]]) [5, 7] ([(some (Blk.seq 5 1 (n1 (sh y 46)).toNat (pk y)), some (1, (n1 (sh y 46)).toNat, pk y)), (some (Blk.seq 7 1 (n1 (sh y 46)).toNat (pk y)), some (1, (n1 (sh y 46)).toNat, pk y))])) (by kernel_rfl) ?_
      refine hold_stop (fun hd hb => ?_)
      refine same_own hd (look_get hb 0 rfl rfl).2 (look_get hb 1 rfl rfl).2 ?_
      refine ok_sk (.l (.l (.l (.stop [9])))) (S := .left (@decide (n ≤ n ∧ AllBytes n (by8 y)) pd) (.left (@decide (AllBytes n (by8 y)) pd) (.left (decide (bytesOf n (by8 y) = bytesOf n (by8 y))) (.stop (Hd.call 10 [.slice 9 0 0 0 true]) [9] ([bk 9 []]))))) (by kernel_rfl) ?_
      refine hl (bc fun h9 => by exact h9 ⟨Nat.le_refl _, all_by8 _ _⟩) ?_
      refine hl (bc fun h9 => by exact h9 (all_by8 _ _)) ?_
      refine hl (bc fun h9 => by exact h9 rfl) ?_
      refine hold_stop (fun hd hb => ?_)
      refine get_zero hd (look_cells hb) ?_
      refine ok_sk (.stop [1]) (S := .stop (Hd.call 11 [.slice 1 0 0 0 true]) [1] ([bk 1 []])) (by kernel_rfl) ?_
      refine hold_stop (fun hd hb => ?_)
      refine rget_zero hd (look_cells hb) ?_
      refine ok_sk (.stop []) (S := .stop (Hd.call 12 [.agg lpZ, .agg lpZ]) [] ([])) (by kernel_rfl) ?_
      refine hold_stop (fun hd hb => ?_)
      refine same_zero hd ?_
      refine ok_sk (.l (.stop [])) (S := .left (decide (([] : List Nat) = [])) (.stop (Hd.call 5 []) [] ([]))) (by kernel_rfl) ?_
      refine hl (bc fun h12 => by exact h12 rfl) ?_
      refine hold_stop (fun hd hb => ?_)
      refine ok_call0 hd W rfl ?_
      rintro x G ⟨rfl, rfl⟩
      refine ⟨rfl, fun g hg => (by cases hg), ?_⟩
      refine ok_sk (.stop []) (S := .stop (Hd.leaf (.bool true)) [] ([])) (by kernel_rfl) ?_
      refine hold_stop (fun hd hb => ?_)
      exact ok_leaf0 hd rfl ⟨rfl, rfl⟩
     refine ok_sk (.stop []) (S := .stop (Hd.leaf (.bool false)) [] ([])) (by kernel_rfl) ?_
     refine hold_stop (fun hd hb => ?_)
     exact absurd iy iz
    refine ok_sk (.stop []) (S := .stop (Hd.call 11 [.data 1 n (by8 y)]) [] ([])) (by kernel_rfl) ?_
    refine hold_stop (fun hd hb => ?_)
    refine ok_call0 hd (rgetT n y (by omega)) rfl ?_
    rintro x G (⟨iz, rfl, rfl⟩ | ⟨iz, rfl, rfl⟩) <;> first | refine ⟨rfl, fun g hg => (by rcases List.mem_singleton.1 hg with rfl; exact fun _ _ => rfl), ?_⟩ | refine ⟨rfl, fun g hg => (by cases hg), ?_⟩
    ·
     refine ok_sk (.stop []) (S := .stop (Hd.leaf (.bool false)) [] ([])) (by kernel_rfl) ?_
     refine hold_stop (fun hd hb => ?_)
     exact absurd iz iy
    refine ok_sk (.stop []) (S := .stop (Hd.call 12 [.agg lpZ, .agg lpZ]) [] ([])) (by kernel_rfl) ?_
    refine hold_stop (fun hd hb => ?_)
    refine same_zero hd ?_
    refine ok_sk (.l (.l (.l (.stop [7])))) (S := .left (@decide (n ≤ n ∧ AllBytes n (by8 y)) pd) (.left (@decide (AllBytes n (by8 y)) pd) (.left (decide (bytesOf n (by8 y) = bytesOf n (by8 y))) (.stop (Hd.call 10 [.slice 7 0 0 0 true]) [7] ([bk 7 []]))))) (by kernel_rfl) ?_
    refine hl (bc fun h9 => by exact h9 ⟨Nat.le_refl _, all_by8 _ _⟩) ?_
    refine hl (bc fun h9 => by exact h9 (all_by8 _ _)) ?_
    refine hl (bc fun h9 => by exact h9 rfl) ?_
    refine hold_stop (fun hd hb => ?_)
    refine get_zero hd (look_cells hb) ?_
    refine ok_sk (.stop [1]) (S := .stop (Hd.call 11 [.slice 1 0 0 0 true]) [1] ([bk 1 []])) (by kernel_rfl) ?_
    refine hold_stop (fun hd hb => ?_)
    refine rget_zero hd (look_cells hb) ?_
    refine ok_sk (.stop []) (S := .stop (Hd.call 12 [.agg lpZ, .agg lpZ]) [] ([])) (by kernel_rfl) ?_
    refine hold_stop (fun hd hb => ?_)
    refine same_zero hd ?_
    refine ok_sk (.l (.stop [])) (S := .left (decide (([] : List Nat) = [])) (.stop (Hd.call 5 []) [] ([]))) (by kernel_rfl) ?_
    refine hl (bc fun h12 => by exact h12 rfl) ?_
    refine hold_stop (fun hd hb => ?_)
    refine ok_call0 hd W rfl ?_
    rintro x G ⟨rfl, rfl⟩
    refine ⟨rfl, fun g hg => (by cases hg), ?_⟩
    refine ok_sk (.stop []) (S := .stop (Hd.leaf (.bool true)) [] ([])) (by kernel_rfl) ?_
    refine hold_stop (fun hd hb => ?_)
    exact ok_leaf0 hd rfl ⟨rfl, rfl⟩
   refine ok_sk (.l (.l (.both (.l (.stop [5])) (.stop [])))) (S := .left (decide (([] : List Nat) = [])) (.left (@decide (47 + q ≤ 47 + q ∧ AllBytes (47 + q) (rowR s q P)) pd) (.fork (decide ([] = bytesOf (47 + q) (rowR s q P))) (.left (@decide (n < 65536 ∧ RowsOK 1 n (by8 y)) pd) (.stop (Hd.call 10 [.gsl 5 n]) [5] ([(some (Blk.seq 5 1 n (by8 y)), some (1, n, by8 y))]))) (.stop (Hd.leaf (.bool false)) [] ([]))))) (by kernel_rfl) ?_
   refine hl (bc fun h6 => by exact h6 rfl) ?_
   refine hl (bc fun h6 => by exact h6 ⟨Nat.le_refl _, all_rowR _ _ _ _⟩) ?_
   refine hold_forkD (fun h6 => ?_) (fun h6 => ?_)
   ·
    refine hl (bc fun h7 => by exact h7 ⟨by omega, fun i hi => ⟨rfl, rfl⟩⟩) ?_
    refine hold_stop (fun hd hb => ?_)
    refine get_own y hd (look_get hb 0 rfl rfl).2 (Nat.le_refl _) (fun i hi => ⟨rfl, rfl⟩) (by omega) (fun iy => ?_) (fun iy => ?_)
    ·
     refine ok_sk (.stop []) (S := .stop (Hd.call 11 [.data 1 n (by8 y)]) [] ([])) (by kernel_rfl) ?_
     refine hold_stop (fun hd hb => ?_)
     refine ok_call0 hd (rgetT n y (by omega)) rfl ?_
     rintro x G (⟨iz, rfl, rfl⟩ | ⟨iz, rfl, rfl⟩) <;> first | refine ⟨rfl, fun g hg => (by rcases List.mem_singleton.1 hg with rfl; exact fun _ _ => rfl), ?_⟩ | refine ⟨rfl, fun g hg => (by cases hg), ?_⟩
     ·
      refine ok_sk (.stop [6, 8]) (S := .stop (Hd.call 12 [.agg [.sint .u8 (stY y (n8 (sh y 22) - 1)).d, .sint .i64 (stY y (n8 (sh y 22) - 1)).w, .sint .u8 (stY y (n8 (sh y 22) - 1)).k, .sint .u64 (stY y (n8 (sh y 22) - 1)).n, .sint .i64 (stY y (n8 (sh y 22) - 1)).t, .sint .i64 (stY y (n8 (sh y 22) - 1)).a, .sint .u64 (stY y (n8 (sh y 22) - 1)).r, .sint .u64 (stY y (n8 (sh y 22) - 1)).o, .sint .i64 (stY y (n8 (sh y 22) - 1)).K, .sint .i64 (stY y (n8 (sh y 22) - 1)).J, .sint .i64 (stY y (n8 (sh y 22) - 1)).N, .gsl 6 (n1 (sh y 46)).toNat], .agg [.sint .u8 (stY y (n8 (sh y 22) - 1)).d, .sint .i64 (stY y (n8 (sh y 22) - 1)).w, .sint .u8 (stY y (n8 (sh y 22) - 1)).k, .sint .u64 (stY y (n8 (sh y 22) - 1)).n, .sint .i64 (stY y (n8 (sh y 22) - 1)).t, .sint .i64 (stY y (n8 (sh y 22) - 1)).a, .sint .u64 (stY y (n8 (sh y 22) - 1)).r, .sint .u64 (stY y (n8 (sh y 22) - 1)).o, .sint .i64 (stY y (n8 (sh y 22) - 1)).K, .sint .i64 (stY y (n8 (sh y 22) - 1)).J, .sint .i64 (stY y (n8 (sh y 22) - 1)).N, .gsl 8 (n1 (sh y 46)).toNat]]) [6, 8] ([(some (Blk.seq 6 1 (n1 (sh y 46)).toNat (pk y)), some (1, (n1 (sh y 46)).toNat, pk y)), (some (Blk.seq 8 1 (n1 (sh y 46)).toNat (pk y)), some (1, (n1 (sh y 46)).toNat, pk y))])) (by kernel_rfl) ?_
      refine hold_stop (fun hd hb => ?_)
      refine same_own hd (look_get hb 0 rfl rfl).2 (look_get hb 1 rfl rfl).2 ?_
      refine ok_sk (.l (.l (.l (.stop [10])))) (S := .left (@decide (n ≤ n ∧ AllBytes n (by8 y)) pd) (.left (@decide (AllBytes n (by8 y)) pd) (.left (decide (bytesOf n (by8 y) = bytesOf n (by8 y))) (.stop (Hd.call 10 [.slice 10 0 0 0 true]) [10] ([bk 10 []]))))) (by kernel_rfl) ?_
      refine hl (bc fun h10 => by exact h10 ⟨Nat.le_refl _, all_by8 _ _⟩) ?_
      refine hl (bc fun h10 => by exact h10 (all_by8 _ _)) ?_
      refine hl (bc fun h10 => by exact h10 rfl) ?_
      refine hold_stop (fun hd hb => ?_)
      refine get_zero hd (look_cells hb) ?_
      refine ok_sk (.stop [2]) (S := .stop (Hd.call 11 [.slice 2 0 0 0 true]) [2] ([bk 2 []])) (by kernel_rfl) ?_
      refine hold_stop (fun hd hb => ?_)
      refine rget_zero hd (look_cells hb) ?_
      refine ok_sk (.stop []) (S := .stop (Hd.call 12 [.agg lpZ, .agg lpZ]) [] ([])) (by kernel_rfl) ?_
      refine hold_stop (fun hd hb => ?_)
      refine same_zero hd ?_
      refine ok_sk (.l (.stop [])) (S := .left (decide (([] : List Nat) = [])) (.stop (Hd.call 5 []) [] ([]))) (by kernel_rfl) ?_
      refine hl (bc fun h13 => by exact h13 rfl) ?_
      refine hold_stop (fun hd hb => ?_)
      refine ok_call0 hd W rfl ?_
      rintro x G ⟨rfl, rfl⟩
      refine ⟨rfl, fun g hg => (by cases hg), ?_⟩
      refine ok_sk (.stop []) (S := .stop (Hd.leaf (.bool true)) [] ([])) (by kernel_rfl) ?_
      refine hold_stop (fun hd hb => ?_)
      exact ok_leaf0 hd rfl ⟨rfl, rfl⟩
     refine ok_sk (.stop []) (S := .stop (Hd.leaf (.bool false)) [] ([])) (by kernel_rfl) ?_
     refine hold_stop (fun hd hb => ?_)
     exact absurd mw mp
    refine ok_sk (.stop []) (S := .stop (Hd.call 11 [.data 1 n (by8 y)]) [] ([])) (by kernel_rfl) ?_
    refine hold_stop (fun hd hb => ?_)
    refine ok_call0 hd (rgetT n y (by omega)) rfl ?_
    rintro x G (⟨iz, rfl, rfl⟩ | ⟨iz, rfl, rfl⟩) <;> first | refine ⟨rfl, fun g hg => (by rcases List.mem_singleton.1 hg with rfl; exact fun _ _ => rfl), ?_⟩ | refine ⟨rfl, fun g hg => (by cases hg), ?_⟩
    ·
     refine ok_sk (.stop []) (S := .stop (Hd.leaf (.bool false)) [] ([])) (by kernel_rfl) ?_
     refine hold_stop (fun hd hb => ?_)
     exact absurd mw mp
    refine ok_sk (.stop []) (S := .stop (Hd.call 12 [.agg lpZ, .agg lpZ]) [] ([])) (by kernel_rfl) ?_
    refine hold_stop (fun hd hb => ?_)
    refine same_zero hd ?_
    refine ok_sk (.l (.l (.l (.stop [8])))) (S := .left (@decide (n ≤ n ∧ AllBytes n (by8 y)) pd) (.left (@decide (AllBytes n (by8 y)) pd) (.left (decide (bytesOf n (by8 y) = bytesOf n (by8 y))) (.stop (Hd.call 10 [.slice 8 0 0 0 true]) [8] ([bk 8 []]))))) (by kernel_rfl) ?_
    refine hl (bc fun h10 => by exact h10 ⟨Nat.le_refl _, all_by8 _ _⟩) ?_
    refine hl (bc fun h10 => by exact h10 (all_by8 _ _)) ?_
    refine hl (bc fun h10 => by exact h10 rfl) ?_
    refine hold_stop (fun hd hb => ?_)
    refine get_zero hd (look_cells hb) ?_
    refine ok_sk (.stop [2]) (S := .stop (Hd.call 11 [.slice 2 0 0 0 true]) [2] ([bk 2 []])) (by kernel_rfl) ?_
    refine hold_stop (fun hd hb => ?_)
    refine rget_zero hd (look_cells hb) ?_
    refine ok_sk (.stop []) (S := .stop (Hd.call 12 [.agg lpZ, .agg lpZ]) [] ([])) (by kernel_rfl) ?_
    refine hold_stop (fun hd hb => ?_)
    refine same_zero hd ?_
    refine ok_sk (.l (.stop [])) (S := .left (decide (([] : List Nat) = [])) (.stop (Hd.call 5 []) [] ([]))) (by kernel_rfl) ?_
    refine hl (bc fun h13 => by exact h13 rfl) ?_
    refine hold_stop (fun hd hb => ?_)
    refine ok_call0 hd W rfl ?_
    rintro x G ⟨rfl, rfl⟩
    refine ⟨rfl, fun g hg => (by cases hg), ?_⟩
    refine ok_sk (.stop []) (S := .stop (Hd.leaf (.bool true)) [] ([])) (by kernel_rfl) ?_
    refine hold_stop (fun hd hb => ?_)
    exact ok_leaf0 hd rfl ⟨rfl, rfl⟩
   refine hold_stop (fun hd hb => ?_)
   exact absurd mw mp
  refine ok_sk (.stop []) (S := .stop (Hd.call 7 [.agg (s.row (ints q P))]) [] ([])) (by kernel_rfl) ?_
  refine hold_stop (fun hd hb => ?_)
  refine ok_call0 hd (tmay s q P (by omega) hr.1.1) rfl ?_
  rintro x G ⟨rfl, ⟨rfl, my⟩ | ⟨rfl, my⟩⟩ <;> refine ⟨rfl, fun g hg => (by cases hg), ?_⟩
  ·
   refine ok_sk (.l (.l (.l (.l (.l (.l (.l (.l (.l (.l (.l (.l (.stop []))))))))))))) (S := .left (decide (s.d = s.d)) (.left (decide (s.w = s.w)) (.left (decide (s.k = s.k)) (.left (decide (s.n = s.n)) (.left (decide (s.t = s.t)) (.left (decide (s.a = s.a)) (.left (decide (s.r = s.r)) (.left (decide (s.o = s.o)) (.left (decide (s.K = s.K)) (.left (decide (s.J = s.J)) (.left (decide (s.N = s.N)) (.left (@decide (s3 (q) (fun (i : Nat) => [.sint .i64 (P i)])) pd) (.stop (Hd.call 8 [.agg (s.row (ints q P))]) [] ([])))))))))))))) (by kernel_rfl) ?_
   refine hl (bc fun h4 => by omega) ?_
   refine hl (bc fun h4 => by omega) ?_
   refine hl (bc fun h4 => by omega) ?_
   refine hl (bc fun h4 => by omega) ?_
   refine hl (bc fun h4 => by omega) ?_
   refine hl (bc fun h4 => by omega) ?_
   refine hl (bc fun h4 => by omega) ?_
   refine hl (bc fun h4 => by omega) ?_
   refine hl (bc fun h4 => by omega) ?_
   refine hl (bc fun h4 => by omega) ?_
   refine hl (bc fun h4 => by omega) ?_
   refine hl (bc fun h4 => by exact h4 ⟨rfl, rfl, rfl⟩) ?_
   refine hold_stop (fun hd hb => ?_)
   refine ok_call0 hd (rmayT s q P (by omega) hr) rfl ?_
   rintro x G ⟨rfl, ⟨rfl, mz⟩ | ⟨rfl, mz⟩⟩ <;> refine ⟨rfl, fun g hg => (by cases hg), ?_⟩
   ·
    refine ok_sk (.l (.stop [])) (S := .left (@decide (47 + q ≤ 47 + q ∧ AllBytes (47 + q) (rowR s q P)) pd) (.stop (Hd.call 9 [.agg (s.row (ints q P))]) [] ([]))) (by kernel_rfl) ?_
    refine hl (bc fun h5 => by exact h5 ⟨Nat.le_refl _, all_rowR _ _ _ _⟩) ?_
    refine hold_stop (fun hd hb => ?_)
    refine ok_call0 hd (rputR s q P (by omega) hr) rfl ?_
    rintro x G (⟨rfl, rfl, mw⟩ | ⟨mw, rfl, rfl⟩) <;> first | refine ⟨rfl, fun g hg => (by rcases List.mem_singleton.1 hg with rfl; exact fun _ _ => rfl), ?_⟩ | refine ⟨rfl, fun g hg => (by cases hg), ?_⟩
    ·
     refine ok_sk (.l (.l (.l (.both (.l (.l (.l (.l (.r (.l (.l (.l (.l (.l (.stop [6]))))))))))) (.stop []))))) (S := .left (@decide (47 + q ≤ 47 + q ∧ AllBytes (47 + q) (rowR s q P)) pd) (.left (decide (bytesOf (47 + q) (rowR s q P) = bytesOf (47 + q) (rowR s q P))) (.left (decide (47 + q = 47 + q)) (.fork (decide (bytesOf (47 + q) (rowR s q P) = [])) (.left (decide (47 + q ≤ 47 + q)) (.left (@decide (47 + q < 65536 ∧ RowsOK 1 (47 + q) (rowR s q P)) pd) (.left (decide (0 < (↑(47 + q) : Int))) (.left (decide ((-9223372036854775808 : Int) ≤ c ∧ c ≤ 9223372036854775807)) (.right (decide ((↑(47 + q) : Int) = 0)) (.left (decide (0 ≤ c.tmod (↑(47 + q) : Int) ∧ (c.tmod (↑(47 + q) : Int)).toNat < 47 + q)) (.left (decide ((c.tmod (↑(47 + q) : Int)).toNat < 47 + q)) (.left (decide (0 ≤ c.tmod (↑(47 + q) : Int) ∧ (c.tmod (↑(47 + q) : Int)).toNat < 47 + q)) (.left (decide ((c.tmod (↑(47 + q) : Int)).toNat < 47 + q)) (.left (@decide (n < 65536 ∧ RowsOK 1 n (by8 y)) pd) (.stop (Hd.call 10 [.gsl 6 n]) [6] ([(some (Blk.seq 6 1 n (by8 y)), some (1, n, by8 y))])))))))))))) (.stop (Hd.leaf (.bool false)) [] ([])))))) (by kernel_rfl) ?_
     refine hl (bc fun h6 => by exact h6 ⟨Nat.le_refl _, all_rowR _ _ _ _⟩) ?_
     refine hl (bc fun h6 => by exact h6 rfl) ?_
     refine hl (bc fun h6 => by omega) ?_
     refine hold_forkD (fun h6 => ?_) (fun h6 => ?_)
     ·
      refine hl (bc fun h7 => by omega) ?_
      refine hl (bc fun h7 => by exact h7 ⟨by omega, fun i hi => ⟨rfl, rfl⟩⟩) ?_
      refine hl (bc fun h7 => by omega) ?_
      refine hl (bc fun h7 => by omega) ?_
      refine hzr (fun h7 => by omega) ?_
      refine hl (bc fun h7 => by omega) ?_
      refine hl (bc fun h7 => by omega) ?_
      refine hl (bc fun h7 => by omega) ?_
      refine hl (bc fun h7 => by omega) ?_
      refine hl (bc fun h7 => by exact h7 ⟨by omega, fun i hi => ⟨rfl, rfl⟩⟩) ?_
      refine hold_stop (fun hd hb => ?_)
      refine get_own y hd (look_get hb 0 rfl rfl).2 (Nat.le_refl _) (fun i hi => ⟨rfl, rfl⟩) (by omega) (fun iy => ?_) (fun iy => ?_)
      ·
       refine ok_sk (.stop []) (S := .stop (Hd.call 11 [.data 1 n (by8 y)]) [] ([])) (by kernel_rfl) ?_
       refine hold_stop (fun hd hb => ?_)
       refine ok_call0 hd (rgetT n y (by omega)) rfl ?_
       rintro x G (⟨iz, rfl, rfl⟩ | ⟨iz, rfl, rfl⟩) <;> first | refine ⟨rfl, fun g hg => (by rcases List.mem_singleton.1 hg with rfl; exact fun _ _ => rfl), ?_⟩ | refine ⟨rfl, fun g hg => (by cases hg), ?_⟩
       ·
        refine ok_sk (.stop [7, 9]) (S := .stop (Hd.call 12 [.agg [.sint .u8 (stY y (n8 (sh y 22) - 1)).d, .sint .i64 (stY y (n8 (sh y 22) - 1)).w, .sint .u8 (stY y (n8 (sh y 22) - 1)).k, .sint .u64 (stY y (n8 (sh y 22) - 1)).n, .sint .i64 (stY y (n8 (sh y 22) - 1)).t, .sint .i64 (stY y (n8 (sh y 22) - 1)).a, .sint .u64 (stY y (n8 (sh y 22) - 1)).r, .sint .u64 (stY y (n8 (sh y 22) - 1)).o, .sint .i64 (stY y (n8 (sh y 22) - 1)).K, .sint .i64 (stY y (n8 (sh y 22) - 1)).J, .sint .i64 (stY y (n8 (sh y 22) - 1)).N, .gsl 7 (n1 (sh y 46)).toNat], .agg [.sint .u8 (stY y (n8 (sh y 22) - 1)).d, .sint .i64 (stY y (n8 (sh y 22) - 1)).w, .sint .u8 (stY y (n8 (sh y 22) - 1)).k, .sint .u64 (stY y (n8 (sh y 22) - 1)).n, .sint .i64 (stY y (n8 (sh y 22) - 1)).t, .sint .i64 (stY y (n8 (sh y 22) - 1)).a, .sint .u64 (stY y (n8 (sh y 22) - 1)).r, .sint .u64 (stY y (n8 (sh y 22) - 1)).o, .sint .i64 (stY y (n8 (sh y 22) - 1)).K, .sint .i64 (stY y (n8 (sh y 22) - 1)).J, .sint .i64 (stY y (n8 (sh y 22) - 1)).N, .gsl 9 (n1 (sh y 46)).toNat]]) [7, 9] ([(some (Blk.seq 7 1 (n1 (sh y 46)).toNat (pk y)), some (1, (n1 (sh y 46)).toNat, pk y)), (some (Blk.seq 9 1 (n1 (sh y 46)).toNat (pk y)), some (1, (n1 (sh y 46)).toNat, pk y))])) (by kernel_rfl) ?_
        refine hold_stop (fun hd hb => ?_)
        refine same_own hd (look_get hb 0 rfl rfl).2 (look_get hb 1 rfl rfl).2 ?_
        refine ok_sk (.l (.l (.l (.l (.l (.stop [12])))))) (S := .left (@decide (n ≤ n ∧ AllBytes n (by8 y)) pd) (.left (@decide (AllBytes n (by8 y)) pd) (.left (decide (bytesOf n (by8 y) = bytesOf n (by8 y))) (.left (decide (47 + q ≤ 47 + q)) (.left (@decide (47 + q < 65536 ∧ RowsOK 1 (47 + q) (setRow (c.tmod (↑(47 + q) : Int)).toNat 0 [.sint .u8 (IntKind.u8.wrap (↑(BitVec.ofInt 8 (rowI s q P (c.tmod (↑(47 + q) : Int)).toNat) ^^^ BitVec.ofInt 8 b).toNat : Int))] (rowR s q P))) pd) (.stop (Hd.call 10 [.gsl 12 (47 + q)]) [12] ([(some (Blk.seq 12 1 (47 + q) (setRow (c.tmod (↑(47 + q) : Int)).toNat 0 [.sint .u8 (IntKind.u8.wrap (↑(BitVec.ofInt 8 (rowI s q P (c.tmod (↑(47 + q) : Int)).toNat) ^^^ BitVec.ofInt 8 b).toNat : Int))] (rowR s q P))), some (1, 47 + q, setRow (c.tmod (↑(47 + q) : Int)).toNat 0 [.sint .u8 (IntKind.u8.wrap (↑(BitVec.ofInt 8 (rowI s q P (c.tmod (↑(47 + q) : Int)).toNat) ^^^ BitVec.ofInt 8 b).toNat : Int))] (rowR s q P)))]))))))) (by kernel_rfl) ?_
        refine hl (bc fun h10 => by exact h10 ⟨Nat.le_refl _, all_by8 _ _⟩) ?_
        refine hl (bc fun h10 => by exact h10 (all_by8 _ _)) ?_
        refine hl (bc fun h10 => by exact h10 rfl) ?_
        refine hl (bc fun h10 => by omega) ?_
        refine hl (bc fun h10 => by exact h10 ⟨by omega, rows_S _ _ _ _ _ _⟩) ?_
        refine hold_stop (fun hd hb => ?_)
        refine get_badY (xorI_bd _ _) hd (look_get hb 0 rfl rfl).2 (Nat.le_refl _) (by omega) fun Y hY => ⟨fun jy => ?_, fun jy => ?_⟩
        ·
         refine ok_sk (.stop [3]) (S := .stop (Hd.call 11 [.gsl 3 (47 + q)]) [3] ([(some (Blk.seq 3 1 (47 + q) (setRow (c.tmod (↑(47 + q) : Int)).toNat 0 [.sint .u8 (IntKind.u8.wrap (↑(BitVec.ofInt 8 (rowI s q P (c.tmod (↑(47 + q) : Int)).toNat) ^^^ BitVec.ofInt 8 b).toNat : Int))] (rowR s q P))), some (1, 47 + q, setRow (c.tmod (↑(47 + q) : Int)).toNat 0 [.sint .u8 (IntKind.u8.wrap (↑(BitVec.ofInt 8 (rowI s q P (c.tmod (↑(47 + q) : Int)).toNat) ^^^ BitVec.ofInt 8 b).toNat : Int))] (rowR s q P)))])) (by kernel_rfl) ?_
         refine hold_stop (fun hd hb => ?_)
         refine rget_own Y hd (look_get hb 0 rfl rfl).2 (Nat.le_refl _) (fun i hi => hY i) (by omega) (fun jz => ?_) (fun jz => ?_)
         ·
          refine ok_sk (.stop [13, 15]) (S := .stop (Hd.call 12 [.agg [.sint .u8 (stY Y (n8 (sh Y 22) - 1)).d, .sint .i64 (stY Y (n8 (sh Y 22) - 1)).w, .sint .u8 (stY Y (n8 (sh Y 22) - 1)).k, .sint .u64 (stY Y (n8 (sh Y 22) - 1)).n, .sint .i64 (stY Y (n8 (sh Y 22) - 1)).t, .sint .i64 (stY Y (n8 (sh Y 22) - 1)).a, .sint .u64 (stY Y (n8 (sh Y 22) - 1)).r, .sint .u64 (stY Y (n8 (sh Y 22) - 1)).o, .sint .i64 (stY Y (n8 (sh Y 22) - 1)).K, .sint .i64 (stY Y (n8 (sh Y 22) - 1)).J, .sint .i64 (stY Y (n8 (sh Y 22) - 1)).N, .gsl 13 (n1 (sh Y 46)).toNat], .agg [.sint .u8 (stY Y (n8 (sh Y 22) - 1)).d, .sint .i64 (stY Y (n8 (sh Y 22) - 1)).w, .sint .u8 (stY Y (n8 (sh Y 22) - 1)).k, .sint .u64 (stY Y (n8 (sh Y 22) - 1)).n, .sint .i64 (stY Y (n8 (sh Y 22) - 1)).t, .sint .i64 (stY Y (n8 (sh Y 22) - 1)).a, .sint .u64 (stY Y (n8 (sh Y 22) - 1)).r, .sint .u64 (stY Y (n8 (sh Y 22) - 1)).o, .sint .i64 (stY Y (n8 (sh Y 22) - 1)).K, .sint .i64 (stY Y (n8 (sh Y 22) - 1)).J, .sint .i64 (stY Y (n8 (sh Y 22) - 1)).N, .gsl 15 (n1 (sh Y 46)).toNat]]) [13, 15] ([(some (Blk.seq 13 1 (n1 (sh Y 46)).toNat (pk Y)), some (1, (n1 (sh Y 46)).toNat, pk Y)), (some (Blk.seq 15 1 (n1 (sh Y 46)).toNat (pk Y)), some (1, (n1 (sh Y 46)).toNat, pk Y))])) (by kernel_rfl) ?_
          refine hold_stop (fun hd hb => ?_)
          refine same_own hd (look_get hb 0 rfl rfl).2 (look_get hb 1 rfl rfl).2 ?_
          refine ok_sk (.l (.l (.l (.stop [])))) (S := .left (@decide (47 + q ≤ 47 + q ∧ AllBytes (47 + q) (setRow (c.tmod (↑(47 + q) : Int)).toNat 0 [.sint .u8 (IntKind.u8.wrap (↑(BitVec.ofInt 8 (rowI s q P (c.tmod (↑(47 + q) : Int)).toNat) ^^^ BitVec.ofInt 8 b).toNat : Int))] (rowR s q P))) pd) (.left (@decide (47 + q ≤ 47 + q ∧ AllBytes (47 + q) (setRow (c.tmod (↑(47 + q) : Int)).toNat 0 [.sint .u8 (IntKind.u8.wrap (↑(BitVec.ofInt 8 (rowI s q P (c.tmod (↑(47 + q) : Int)).toNat) ^^^ BitVec.ofInt 8 b).toNat : Int))] (rowR s q P))) pd) (.left (decide (bytesOf (47 + q) (setRow (c.tmod (↑(47 + q) : Int)).toNat 0 [.sint .u8 (IntKind.u8.wrap (↑(BitVec.ofInt 8 (rowI s q P (c.tmod (↑(47 + q) : Int)).toNat) ^^^ BitVec.ofInt 8 b).toNat : Int))] (rowR s q P)) = bytesOf (47 + q) (setRow (c.tmod (↑(47 + q) : Int)).toNat 0 [.sint .u8 (IntKind.u8.wrap (↑(BitVec.ofInt 8 (rowI s q P (c.tmod (↑(47 + q) : Int)).toNat) ^^^ BitVec.ofInt 8 b).toNat : Int))] (rowR s q P)))) (.stop (Hd.call 5 []) [] ([]))))) (by kernel_rfl) ?_
          refine hl (bc fun h13 => by exact h13 ⟨Nat.le_refl _, all_S _ _ _ _ (xorI_bd _ _) _⟩) ?_
          refine hl (bc fun h13 => by exact h13 ⟨Nat.le_refl _, all_S _ _ _ _ (xorI_bd _ _) _⟩) ?_
          refine hl (bc fun h13 => by exact h13 rfl) ?_
          refine hold_stop (fun hd hb => ?_)
          refine ok_call0 hd W rfl ?_
          rintro x G ⟨rfl, rfl⟩
          refine ⟨rfl, fun g hg => (by cases hg), ?_⟩
          refine ok_sk (.stop []) (S := .stop (Hd.leaf (.bool true)) [] ([])) (by kernel_rfl) ?_
          refine hold_stop (fun hd hb => ?_)
          exact ok_leaf0 hd rfl ⟨rfl, rfl⟩
         refine ok_sk (.stop []) (S := .stop (Hd.leaf (.bool false)) [] ([])) (by kernel_rfl) ?_
         refine hold_stop (fun hd hb => ?_)
         exact absurd mp mw
        refine ok_sk (.stop [3]) (S := .stop (Hd.call 11 [.gsl 3 (47 + q)]) [3] ([(some (Blk.seq 3 1 (47 + q) (setRow (c.tmod (↑(47 + q) : Int)).toNat 0 [.sint .u8 (IntKind.u8.wrap (↑(BitVec.ofInt 8 (rowI s q P (c.tmod (↑(47 + q) : Int)).toNat) ^^^ BitVec.ofInt 8 b).toNat : Int))] (rowR s q P))), some (1, 47 + q, setRow (c.tmod (↑(47 + q) : Int)).toNat 0 [.sint .u8 (IntKind.u8.wrap (↑(BitVec.ofInt 8 (rowI s q P (c.tmod (↑(47 + q) : Int)).toNat) ^^^ BitVec.ofInt 8 b).toNat : Int))] (rowR s q P)))])) (by kernel_rfl) ?_
        refine hold_stop (fun hd hb => ?_)
        refine rget_own Y hd (look_get hb 0 rfl rfl).2 (Nat.le_refl _) (fun i hi => hY i) (by omega) (fun jz => ?_) (fun jz => ?_)
        ·
         refine ok_sk (.stop []) (S := .stop (Hd.leaf (.bool false)) [] ([])) (by kernel_rfl) ?_
         refine hold_stop (fun hd hb => ?_)
         exact absurd mp mw
        refine ok_sk (.stop []) (S := .stop (Hd.call 12 [.agg lpZ, .agg lpZ]) [] ([])) (by kernel_rfl) ?_
        refine hold_stop (fun hd hb => ?_)
        refine same_zero hd ?_
        refine ok_sk (.l (.l (.l (.stop [])))) (S := .left (@decide (47 + q ≤ 47 + q ∧ AllBytes (47 + q) (setRow (c.tmod (↑(47 + q) : Int)).toNat 0 [.sint .u8 (IntKind.u8.wrap (↑(BitVec.ofInt 8 (rowI s q P (c.tmod (↑(47 + q) : Int)).toNat) ^^^ BitVec.ofInt 8 b).toNat : Int))] (rowR s q P))) pd) (.left (@decide (47 + q ≤ 47 + q ∧ AllBytes (47 + q) (setRow (c.tmod (↑(47 + q) : Int)).toNat 0 [.sint .u8 (IntKind.u8.wrap (↑(BitVec.ofInt 8 (rowI s q P (c.tmod (↑(47 + q) : Int)).toNat) ^^^ BitVec.ofInt 8 b).toNat : Int))] (rowR s q P))) pd) (.left (decide (bytesOf (47 + q) (setRow (c.tmod (↑(47 + q) : Int)).toNat 0 [.sint .u8 (IntKind.u8.wrap (↑(BitVec.ofInt 8 (rowI s q P (c.tmod (↑(47 + q) : Int)).toNat) ^^^ BitVec.ofInt 8 b).toNat : Int))] (rowR s q P)) = bytesOf (47 + q) (setRow (c.tmod (↑(47 + q) : Int)).toNat 0 [.sint .u8 (IntKind.u8.wrap (↑(BitVec.ofInt 8 (rowI s q P (c.tmod (↑(47 + q) : Int)).toNat) ^^^ BitVec.ofInt 8 b).toNat : Int))] (rowR s q P)))) (.stop (Hd.call 5 []) [] ([]))))) (by kernel_rfl) ?_
        refine hl (bc fun h13 => by exact h13 ⟨Nat.le_refl _, all_S _ _ _ _ (xorI_bd _ _) _⟩) ?_
        refine hl (bc fun h13 => by exact h13 ⟨Nat.le_refl _, all_S _ _ _ _ (xorI_bd _ _) _⟩) ?_
        refine hl (bc fun h13 => by exact h13 rfl) ?_
        refine hold_stop (fun hd hb => ?_)
        refine ok_call0 hd W rfl ?_
        rintro x G ⟨rfl, rfl⟩
        refine ⟨rfl, fun g hg => (by cases hg), ?_⟩
        refine ok_sk (.stop []) (S := .stop (Hd.leaf (.bool true)) [] ([])) (by kernel_rfl) ?_
        refine hold_stop (fun hd hb => ?_)
        exact ok_leaf0 hd rfl ⟨rfl, rfl⟩
       refine ok_sk (.stop []) (S := .stop (Hd.leaf (.bool false)) [] ([])) (by kernel_rfl) ?_
       refine hold_stop (fun hd hb => ?_)
       exact absurd mp mw
      refine ok_sk (.stop []) (S := .stop (Hd.call 11 [.data 1 n (by8 y)]) [] ([])) (by kernel_rfl) ?_
      refine hold_stop (fun hd hb => ?_)
      refine ok_call0 hd (rgetT n y (by omega)) rfl ?_
      rintro x G (⟨iz, rfl, rfl⟩ | ⟨iz, rfl, rfl⟩) <;> first | refine ⟨rfl, fun g hg => (by rcases List.mem_singleton.1 hg with rfl; exact fun _ _ => rfl), ?_⟩ | refine ⟨rfl, fun g hg => (by cases hg), ?_⟩
      ·
       refine ok_sk (.stop []) (S := .stop (Hd.leaf (.bool false)) [] ([])) (by kernel_rfl) ?_
       refine hold_stop (fun hd hb => ?_)
       exact absurd mp mw
      refine ok_sk (.stop []) (S := .stop (Hd.call 12 [.agg lpZ, .agg lpZ]) [] ([])) (by kernel_rfl) ?_
      refine hold_stop (fun hd hb => ?_)
      refine same_zero hd ?_
      refine ok_sk (.l (.l (.l (.l (.l (.stop [10])))))) (S := .left (@decide (n ≤ n ∧ AllBytes n (by8 y)) pd) (.left (@decide (AllBytes n (by8 y)) pd) (.left (decide (bytesOf n (by8 y) = bytesOf n (by8 y))) (.left (decide (47 + q ≤ 47 + q)) (.left (@decide (47 + q < 65536 ∧ RowsOK 1 (47 + q) (setRow (c.tmod (↑(47 + q) : Int)).toNat 0 [.sint .u8 (IntKind.u8.wrap (↑(BitVec.ofInt 8 (rowI s q P (c.tmod (↑(47 + q) : Int)).toNat) ^^^ BitVec.ofInt 8 b).toNat : Int))] (rowR s q P))) pd) (.stop (Hd.call 10 [.gsl 10 (47 + q)]) [10] ([(some (Blk.seq 10 1 (47 + q) (setRow (c.tmod (↑(47 + q) : Int)).toNat 0 [.sint .u8 (IntKind.u8.wrap (↑(BitVec.ofInt 8 (rowI s q P (c.tmod (↑(47 + q) : Int)).toNat) ^^^ BitVec.ofInt 8 b).toNat : Int))] (rowR s q P))), some (1, 47 + q, setRow (c.tmod (↑(47 + q) : Int)).toNat 0 [.sint .u8 (IntKind.u8.wrap (↑(BitVec.ofInt 8 (rowI s q P (c.tmod (↑(47 + q) : Int)).toNat) ^^^ BitVec.ofInt 8 b).toNat : Int))] (rowR s q P)))]))))))) (by kernel_rfl) ?_
      refine hl (bc fun h10 => by exact h10 ⟨Nat.le_refl _, all_by8 _ _⟩) ?_
      refine hl (bc fun h10 => by exact h10 (all_by8 _ _)) ?_
      refine hl (bc fun h10 => by exact h10 rfl) ?_
      refine hl (bc fun h10 => by omega) ?_
      refine hl (bc fun h10 => by exact h10 ⟨by omega, rows_S _ _ _ _ _ _⟩) ?_
      refine hold_stop (fun hd hb => ?_)
      refine get_badY (xorI_bd _ _) hd (look_get hb 0 rfl rfl).2 (Nat.le_refl _) (by omega) fun Y hY => ⟨fun jy => ?_, fun jy => ?_⟩
      ·
       refine ok_sk (.stop [3]) (S := .stop (Hd.call 11 [.gsl 3 (47 + q)]) [3] ([(some (Blk.seq 3 1 (47 + q) (setRow (c.tmod (↑(47 + q) : Int)).toNat 0 [.sint .u8 (IntKind.u8.wrap (↑(BitVec.ofInt 8 (rowI s q P (c.tmod (↑(47 + q) : Int)).toNat) ^^^ BitVec.ofInt 8 b).toNat : Int))] (rowR s q P))), some (1, 47 + q, setRow (c.tmod (↑(47 + q) : Int)).toNat 0 [.sint .u8 (IntKind.u8.wrap (↑(BitVec.ofInt 8 (rowI s q P (c.tmod (↑(47 + q) : Int)).toNat) ^^^ BitVec.ofInt 8 b).toNat : Int))] (rowR s q P)))])) (by kernel_rfl) ?_
       refine hold_stop (fun hd hb => ?_)
       refine rget_own Y hd (look_get hb 0 rfl rfl).2 (Nat.le_refl _) (fun i hi => hY i) (by omega) (fun jz => ?_) (fun jz => ?_)
       ·
        refine ok_sk (.stop [11, 13]) (S := .stop (Hd.call 12 [.agg [.sint .u8 (stY Y (n8 (sh Y 22) - 1)).d, .sint .i64 (stY Y (n8 (sh Y 22) - 1)).w, .sint .u8 (stY Y (n8 (sh Y 22) - 1)).k, .sint .u64 (stY Y (n8 (sh Y 22) - 1)).n, .sint .i64 (stY Y (n8 (sh Y 22) - 1)).t, .sint .i64 (stY Y (n8 (sh Y 22) - 1)).a, .sint .u64 (stY Y (n8 (sh Y 22) - 1)).r, .sint .u64 (stY Y (n8 (sh Y 22) - 1)).o, .sint .i64 (stY Y (n8 (sh Y 22) - 1)).K, .sint .i64 (stY Y (n8 (sh Y 22) - 1)).J, .sint .i64 (stY Y (n8 (sh Y 22) - 1)).N, .gsl 11 (n1 (sh Y 46)).toNat], .agg [.sint .u8 (stY Y (n8 (sh Y 22) - 1)).d, .sint .i64 (stY Y (n8 (sh Y 22) - 1)).w, .sint .u8 (stY Y (n8 (sh Y 22) - 1)).k, .sint .u64 (stY Y (n8 (sh Y 22) - 1)).n, .sint .i64 (stY Y (n8 (sh Y 22) - 1)).t, .sint .i64 (stY Y (n8 (sh Y 22) - 1)).a, .sint .u64 (stY Y (n8 (sh Y 22) - 1)).r, .sint .u64 (stY Y (n8 (sh Y 22) - 1)).o, .sint .i64 (stY Y (n8 (sh Y 22) - 1)).K, .sint .i64 (stY Y (n8 (sh Y 22) - 1)).J, .sint .i64 (stY Y (n8 (sh Y 22) - 1)).N, .gsl 13 (n1 (sh Y 46)).toNat]]) [11, 13] ([(some (Blk.seq 11 1 (n1 (sh Y 46)).toNat (pk Y)), some (1, (n1 (sh Y 46)).toNat, pk Y)), (some (Blk.seq 13 1 (n1 (sh Y 46)).toNat (pk Y)), some (1, (n1 (sh Y 46)).toNat, pk Y))])) (by kernel_rfl) ?_
        refine hold_stop (fun hd hb => ?_)
        refine same_own hd (look_get hb 0 rfl rfl).2 (look_get hb 1 rfl rfl).2 ?_
        refine ok_sk (.l (.l (.l (.stop [])))) (S := .left (@decide (47 + q ≤ 47 + q ∧ AllBytes (47 + q) (setRow (c.tmod (↑(47 + q) : Int)).toNat 0 [.sint .u8 (IntKind.u8.wrap (↑(BitVec.ofInt 8 (rowI s q P (c.tmod (↑(47 + q) : Int)).toNat) ^^^ BitVec.ofInt 8 b).toNat : Int))] (rowR s q P))) pd) (.left (@decide (47 + q ≤ 47 + q ∧ AllBytes (47 + q) (setRow (c.tmod (↑(47 + q) : Int)).toNat 0 [.sint .u8 (IntKind.u8.wrap (↑(BitVec.ofInt 8 (rowI s q P (c.tmod (↑(47 + q) : Int)).toNat) ^^^ BitVec.ofInt 8 b).toNat : Int))] (rowR s q P))) pd) (.left (decide (bytesOf (47 + q) (setRow (c.tmod (↑(47 + q) : Int)).toNat 0 [.sint .u8 (IntKind.u8.wrap (↑(BitVec.ofInt 8 (rowI s q P (c.tmod (↑(47 + q) : Int)).toNat) ^^^ BitVec.ofInt 8 b).toNat : Int))] (rowR s q P)) = bytesOf (47 + q) (setRow (c.tmod (↑(47 + q) : Int)).toNat 0 [.sint .u8 (IntKind.u8.wrap (↑(BitVec.ofInt 8 (rowI s q P (c.tmod (↑(47 + q) : Int)).toNat) ^^^ BitVec.ofInt 8 b).toNat : Int))] (rowR s q P)))) (.stop (Hd.call 5 []) [] ([]))))) (by kernel_rfl) ?_
        refine hl (bc fun h13 => by exact h13 ⟨Nat.le_refl _, all_S _ _ _ _ (xorI_bd _ _) _⟩) ?_
        refine hl (bc fun h13 => by exact h13 ⟨Nat.le_refl _, all_S _ _ _ _ (xorI_bd _ _) _⟩) ?_
        refine hl (bc fun h13 => by exact h13 rfl) ?_
        refine hold_stop (fun hd hb => ?_)
        refine ok_call0 hd W rfl ?_
        rintro x G ⟨rfl, rfl⟩
        refine ⟨rfl, fun g hg => (by cases hg), ?_⟩
        refine ok_sk (.stop []) (S := .stop (Hd.leaf (.bool true)) [] ([])) (by kernel_rfl) ?_
        refine hold_stop (fun hd hb => ?_)
        exact ok_leaf0 hd rfl ⟨rfl, rfl⟩
       refine ok_sk (.stop []) (S := .stop (Hd.leaf (.bool false)) [] ([])) (by kernel_rfl) ?_
       refine hold_stop (fun hd hb => ?_)
       exact absurd mp mw
      refine ok_sk (.stop [3]) (S := .stop (Hd.call 11 [.gsl 3 (47 + q)]) [3] ([(some (Blk.seq 3 1 (47 + q) (setRow (c.tmod (↑(47 + q) : Int)).toNat 0 [.sint .u8 (IntKind.u8.wrap (↑(BitVec.ofInt 8 (rowI s q P (c.tmod (↑(47 + q) : Int)).toNat) ^^^ BitVec.ofInt 8 b).toNat : Int))] (rowR s q P))), some (1, 47 + q, setRow (c.tmod (↑(47 + q) : Int)).toNat 0 [.sint .u8 (IntKind.u8.wrap (↑(BitVec.ofInt 8 (rowI s q P (c.tmod (↑(47 + q) : Int)).toNat) ^^^ BitVec.ofInt 8 b).toNat : Int))] (rowR s q P)))])) (by kernel_rfl) ?_
      refine hold_stop (fun hd hb => ?_)
      refine rget_own Y hd (look_get hb 0 rfl rfl).2 (Nat.le_refl _) (fun i hi => hY i) (by omega) (fun jz => ?_) (fun jz => ?_)
      ·
       refine ok_sk (.stop []) (S := .stop (Hd.leaf (.bool false)) [] ([])) (by kernel_rfl) ?_
       refine hold_stop (fun hd hb => ?_)
       exact absurd mp mw
      refine ok_sk (.stop []) (S := .stop (Hd.call 12 [.agg lpZ, .agg lpZ]) [] ([])) (by kernel_rfl) ?_
      refine hold_stop (fun hd hb => ?_)
      refine same_zero hd ?_
      refine ok_sk (.l (.l (.l (.stop [])))) (S := .left (@decide (47 + q ≤ 47 + q ∧ AllBytes (47 + q) (setRow (c.tmod (↑(47 + q) : Int)).toNat 0 [.sint .u8 (IntKind.u8.wrap (↑(BitVec.ofInt 8 (rowI s q P (c.tmod (↑(47 + q) : Int)).toNat) ^^^ BitVec.ofInt 8 b).toNat : Int))] (rowR s q P))) pd) (.left (@decide (47 + q ≤ 47 + q ∧ AllBytes (47 + q) (setRow (c.tmod (↑(47 + q) : Int)).toNat 0 [.sint .u8 (IntKind.u8.wrap (↑(BitVec.ofInt 8 (rowI s q P (c.tmod (↑(47 + q) : Int)).toNat) ^^^ BitVec.ofInt 8 b).toNat : Int))] (rowR s q P))) pd) (.left (decide (bytesOf (47 + q) (setRow (c.tmod (↑(47 + q) : Int)).toNat 0 [.sint .u8 (IntKind.u8.wrap (↑(BitVec.ofInt 8 (rowI s q P (c.tmod (↑(47 + q) : Int)).toNat) ^^^ BitVec.ofInt 8 b).toNat : Int))] (rowR s q P)) = bytesOf (47 + q) (setRow (c.tmod (↑(47 + q) : Int)).toNat 0 [.sint .u8 (IntKind.u8.wrap (↑(BitVec.ofInt 8 (rowI s q P (c.tmod (↑(47 + q) : Int)).toNat) ^^^ BitVec.ofInt 8 b).toNat : Int))] (rowR s q P)))) (.stop (Hd.call 5 []) [] ([]))))) (by kernel_rfl) ?_
      refine hl (bc fun h13 => by exact h13 ⟨Nat.le_refl _, all_S _ _ _ _ (xorI_bd _ _) _⟩) ?_
      refine hl (bc fun h13 => by exact h13 ⟨Nat.le_refl _, all_S _ _ _ _ (xorI_bd _ _) _⟩) ?_
      refine hl (bc fun h13 => by exact h13 rfl) ?_
      refine hold_stop (fun hd hb => ?_)
      refine ok_call0 hd W rfl ?_
      rintro x G ⟨rfl, rfl⟩
      refine ⟨rfl, fun g hg => (by cases hg), ?_⟩
      refine ok_sk (.stop []) (S := .stop (Hd.leaf (.bool true)) [] ([])) (by kernel_rfl) ?_
      refine hold_stop (fun hd hb => ?_)
      exact ok_leaf0 hd rfl ⟨rfl, rfl⟩
     refine hold_stop (fun hd hb => ?_)
     exact absurd mp mw
    refine ok_sk (.l (.l (.l (.l (.l (.l (.l (.l (.l (.r (.l (.l (.l (.l (.l (.stop [7])))))))))))))))) (S := .left (@decide (47 + q ≤ 47 + q ∧ AllBytes (47 + q) (rowR s q P)) pd) (.left (decide (bytesOf (47 + q) (rowR s q P) = bytesOf (47 + q) (rowR s q P))) (.left (decide (47 + q = 47 + q)) (.left (@decide (47 + q ≤ 47 + q ∧ AllBytes (47 + q) (rowR s q P)) pd) (.left (decide (bytesOf (47 + q) (rowR s q P) = bytesOf (47 + q) (rowR s q P))) (.left (decide (47 + q ≤ 47 + q)) (.left (@decide (47 + q < 65536 ∧ RowsOK 1 (47 + q) (rowR s q P)) pd) (.left (decide (0 < (↑(47 + q) : Int))) (.left (decide ((-9223372036854775808 : Int) ≤ c ∧ c ≤ 9223372036854775807)) (.right (decide ((↑(47 + q) : Int) = 0)) (.left (decide (0 ≤ c.tmod (↑(47 + q) : Int) ∧ (c.tmod (↑(47 + q) : Int)).toNat < 47 + q)) (.left (decide ((c.tmod (↑(47 + q) : Int)).toNat < 47 + q)) (.left (decide (0 ≤ c.tmod (↑(47 + q) : Int) ∧ (c.tmod (↑(47 + q) : Int)).toNat < 47 + q)) (.left (decide ((c.tmod (↑(47 + q) : Int)).toNat < 47 + q)) (.left (@decide (n < 65536 ∧ RowsOK 1 n (by8 y)) pd) (.stop (Hd.call 10 [.gsl 7 n]) [7] ([(some (Blk.seq 7 1 n (by8 y)), some (1, n, by8 y))]))))))))))))))))) (by kernel_rfl) ?_
    refine hl (bc fun h6 => by exact h6 ⟨Nat.le_refl _, all_rowR _ _ _ _⟩) ?_
    refine hl (bc fun h6 => by exact h6 rfl) ?_
    refine hl (bc fun h6 => by omega) ?_
    refine hl (bc fun h6 => by exact h6 ⟨Nat.le_refl _, all_rowR _ _ _ _⟩) ?_
    refine hl (bc fun h6 => by exact h6 rfl) ?_
    refine hl (bc fun h6 => by omega) ?_
    refine hl (bc fun h6 => by exact h6 ⟨by omega, fun i hi => ⟨rfl, rfl⟩⟩) ?_
    refine hl (bc fun h6 => by omega) ?_
    refine hl (bc fun h6 => by omega) ?_
    refine hzr (fun h6 => by omega) ?_
    refine hl (bc fun h6 => by omega) ?_
    refine hl (bc fun h6 => by omega) ?_
    refine hl (bc fun h6 => by omega) ?_
    refine hl (bc fun h6 => by omega) ?_
    refine hl (bc fun h6 => by exact h6 ⟨by omega, fun i hi => ⟨rfl, rfl⟩⟩) ?_
    refine hold_stop (fun hd hb => ?_)
    refine get_own y hd (look_get hb 0 rfl rfl).2 (Nat.le_refl _) (fun i hi => ⟨rfl, rfl⟩) (by omega) (fun iy => ?_) (fun iy => ?_)
    ·
     refine ok_sk (.stop []) (S := .stop (Hd.call 11 [.data 1 n (by8 y)]) [] ([])) (by kernel_rfl) ?_
     refine hold_stop (fun hd hb => ?_)
     refine ok_call0 hd (rgetT n y (by omega)) rfl ?_
     rintro x G (⟨iz, rfl, rfl⟩ | ⟨iz, rfl, rfl⟩) <;> first | refine ⟨rfl, fun g hg => (by rcases List.mem_singleton.1 hg with rfl; exact fun _ _ => rfl), ?_⟩ | refine ⟨rfl, fun g hg => (by cases hg), ?_⟩
     ·
      refine ok_sk (.stop [8, 10]) (S := .stop (Hd.call 12 [.agg [.sint .u8 (stY y (n8 (sh y 22) - 1)).d, .sint .i64 (stY y (n8 (sh y 22) - 1)).w, .sint .u8 (stY y (n8 (sh y 22) - 1)).k, .sint .u64 (stY y (n8 (sh y 22) - 1)).n, .sint .i64 (stY y (n8 (sh y 22) - 1)).t, .sint .i64 (stY y (n8 (sh y 22) - 1)).a, .sint .u64 (stY y (n8 (sh y 22) - 1)).r, .sint .u64 (stY y (n8 (sh y 22) - 1)).o, .sint .i64 (stY y (n8 (sh y 22) - 1)).K, .sint .i64 (stY y (n8 (sh y 22) - 1)).J, .sint .i64 (stY y (n8 (sh y 22) - 1)).N, .gsl 8 (n1 (sh y 46)).toNat], .agg [.sint .u8 (stY y (n8 (sh y 22) - 1)).d, .sint .i64 (stY y (n8 (sh y 22) - 1)).w, .sint .u8 (stY y (n8 (sh y 22) - 1)).k, .sint .u64 (stY y (n8 (sh y 22) - 1)).n, .sint .i64 (stY y (n8 (sh y 22) - 1)).t, .sint .i64 (stY y (n8 (sh y 22) - 1)).a, .sint .u64 (stY y (n8 (sh y 22) - 1)).r, .sint .u64 (stY y (n8 (sh y 22) - 1)).o, .sint .i64 (stY y (n8 (sh y 22) - 1)).K, .sint .i64 (stY y (n8 (sh y 22) - 1)).J, .sint .i64 (stY y (n8 (sh y 22) - 1)).N, .gsl 10 (n1 (sh y 46)).toNat]]) [8, 10] ([(some (Blk.seq 8 1 (n1 (sh y 46)).toNat (pk y)), some (1, (n1 (sh y 46)).toNat, pk y)), (some (Blk.seq 10 1 (n1 (sh y 46)).toNat (pk y)), some (1, (n1 (sh y 46)).toNat, pk y))])) (by kernel_rfl) ?_
      refine hold_stop (fun hd hb => ?_)
      refine same_own hd (look_get hb 0 rfl rfl).2 (look_get hb 1 rfl rfl).2 ?_
      refine ok_sk (.l (.l (.l (.l (.l (.stop [13])))))) (S := .left (@decide (n ≤ n ∧ AllBytes n (by8 y)) pd) (.left (@decide (AllBytes n (by8 y)) pd) (.left (decide (bytesOf n (by8 y) = bytesOf n (by8 y))) (.left (decide (47 + q ≤ 47 + q)) (.left (@decide (47 + q < 65536 ∧ RowsOK 1 (47 + q) (setRow (c.tmod (↑(47 + q) : Int)).toNat 0 [.sint .u8 (IntKind.u8.wrap (↑(BitVec.ofInt 8 (rowI s q P (c.tmod (↑(47 + q) : Int)).toNat) ^^^ BitVec.ofInt 8 b).toNat : Int))] (rowR s q P))) pd) (.stop (Hd.call 10 [.gsl 13 (47 + q)]) [13] ([(some (Blk.seq 13 1 (47 + q) (setRow (c.tmod (↑(47 + q) : Int)).toNat 0 [.sint .u8 (IntKind.u8.wrap (↑(BitVec.ofInt 8 (rowI s q P (c.tmod (↑(47 + q) : Int)).toNat) ^^^ BitVec.ofInt 8 b).toNat : Int))] (rowR s q P))), some (1, 47 + q, setRow (c.tmod (↑(47 + q) : Int)).toNat 0 [.sint .u8 (IntKind.u8.wrap (↑(BitVec.ofInt 8 (rowI s q P (c.tmod (↑(47 + q) : Int)).toNat) ^^^ BitVec.ofInt 8 b).toNat : Int))] (rowR s q P)))]))))))) (by kernel_rfl) ?_
      refine hl (bc fun h9 => by exact h9 ⟨Nat.le_refl _, all_by8 _ _⟩) ?_
      refine hl (bc fun h9 => by exact h9 (all_by8 _ _)) ?_
      refine hl (bc fun h9 => by exact h9 rfl) ?_
      refine hl (bc fun h9 => by omega) ?_
      refine hl (bc fun h9 => by exact h9 ⟨by omega, rows_S _ _ _ _ _ _⟩) ?_
      refine hold_stop (fun hd hb => ?_)
      refine get_badY (xorI_bd _ _) hd (look_get hb 0 rfl rfl).2 (Nat.le_refl _) (by omega) fun Y hY => ⟨fun jy => ?_, fun jy => ?_⟩
      ·
       refine ok_sk (.stop [4]) (S := .stop (Hd.call 11 [.gsl 4 (47 + q)]) [4] ([(some (Blk.seq 4 1 (47 + q) (setRow (c.tmod (↑(47 + q) : Int)).toNat 0 [.sint .u8 (IntKind.u8.wrap (↑(BitVec.ofInt 8 (rowI s q P (c.tmod (↑(47 + q) : Int)).toNat) ^^^ BitVec.ofInt 8 b).toNat : Int))] (rowR s q P))), some (1, 47 + q, setRow (c.tmod (↑(47 + q) : Int)).toNat 0 [.sint .u8 (IntKind.u8.wrap (↑(BitVec.ofInt 8 (rowI s q P (c.tmod (↑(47 + q) : Int)).toNat) ^^^ BitVec.ofInt 8 b).toNat : Int))] (rowR s q P)))])) (by kernel_rfl) ?_
       refine hold_stop (fun hd hb => ?_)
       refine rget_own Y hd (look_get hb 0 rfl rfl).2 (Nat.le_refl _) (fun i hi => hY i) (by omega) (fun jz => ?_) (fun jz => ?_)
       ·
        refine ok_sk (.stop [14, 16]) (S := .stop (Hd.call 12 [.agg [.sint .u8 (stY Y (n8 (sh Y 22) - 1)).d, .sint .i64 (stY Y (n8 (sh Y 22) - 1)).w, .sint .u8 (stY Y (n8 (sh Y 22) - 1)).k, .sint .u64 (stY Y (n8 (sh Y 22) - 1)).n, .sint .i64 (stY Y (n8 (sh Y 22) - 1)).t, .sint .i64 (stY Y (n8 (sh Y 22) - 1)).a, .sint .u64 (stY Y (n8 (sh Y 22) - 1)).r, .sint .u64 (stY Y (n8 (sh Y 22) - 1)).o, .sint .i64 (stY Y (n8 (sh Y 22) - 1)).K, .sint .i64 (stY Y (n8 (sh Y 22) - 1)).J, .sint .i64 (stY Y (n8 (sh Y 22) - 1)).N, .gsl 14 (n1 (sh Y 46)).toNat], .agg [.sint .u8 (stY Y (n8 (sh Y 22) - 1)).d, .sint .i64 (stY Y (n8 (sh Y 22) - 1)).w, .sint .u8 (stY Y (n8 (sh Y 22) - 1)).k, .sint .u64 (stY Y (n8 (sh Y 22) - 1)).n, .sint .i64 (stY Y (n8 (sh Y 22) - 1)).t, .sint .i64 (stY Y (n8 (sh Y 22) - 1)).a, .sint .u64 (stY Y (n8 (sh Y 22) - 1)).r, .sint .u64 (stY Y (n8 (sh Y 22) - 1)).o, .sint .i64 (stY Y (n8 (sh Y 22) - 1)).K, .sint .i64 (stY Y (n8 (sh Y 22) - 1)).J, .sint .i64 (stY Y (n8 (sh Y 22) - 1)).N, .gsl 16 (n1 (sh Y 46)).toNat]]) [14, 16] ([(some (Blk.seq 14 1 (n1 (sh Y 46)).toNat (pk Y)), some (1, (n1 (sh Y 46)).toNat, pk Y)), (some (Blk.seq 16 1 (n1 (sh Y 46)).toNat (pk Y)), some (1, (n1 (sh Y 46)).toNat, pk Y))])) (by kernel_rfl) ?_
        refine hold_stop (fun hd hb => ?_)
        refine same_own hd (look_get hb 0 rfl rfl).2 (look_get hb 1 rfl rfl).2 ?_
        refine ok_sk (.l (.l (.l (.stop [])))) (S := .left (@decide (47 + q ≤ 47 + q ∧ AllBytes (47 + q) (setRow (c.tmod (↑(47 + q) : Int)).toNat 0 [.sint .u8 (IntKind.u8.wrap (↑(BitVec.ofInt 8 (rowI s q P (c.tmod (↑(47 + q) : Int)).toNat) ^^^ BitVec.ofInt 8 b).toNat : Int))] (rowR s q P))) pd) (.left (@decide (47 + q ≤ 47 + q ∧ AllBytes (47 + q) (setRow (c.tmod (↑(47 + q) : Int)).toNat 0 [.sint .u8 (IntKind.u8.wrap (↑(BitVec.ofInt 8 (rowI s q P (c.tmod (↑(47 + q) : Int)).toNat) ^^^ BitVec.ofInt 8 b).toNat : Int))] (rowR s q P))) pd) (.left (decide (bytesOf (47 + q) (setRow (c.tmod (↑(47 + q) : Int)).toNat 0 [.sint .u8 (IntKind.u8.wrap (↑(BitVec.ofInt 8 (rowI s q P (c.tmod (↑(47 + q) : Int)).toNat) ^^^ BitVec.ofInt 8 b).toNat : Int))] (rowR s q P)) = bytesOf (47 + q) (setRow (c.tmod (↑(47 + q) : Int)).toNat 0 [.sint .u8 (IntKind.u8.wrap (↑(BitVec.ofInt 8 (rowI s q P (c.tmod (↑(47 + q) : Int)).toNat) ^^^ BitVec.ofInt 8 b).toNat : Int))] (rowR s q P)))) (.stop (Hd.call 5 []) [] ([]))))) (by kernel_rfl) ?_
        refine hl (bc fun h12 => by exact h12 ⟨Nat.le_refl _, all_S _ _ _ _ (xorI_bd _ _) _⟩) ?_
        refine hl (bc fun h12 => by exact h12 ⟨Nat.le_refl _, all_S _ _ _ _ (xorI_bd _ _) _⟩) ?_
        refine hl (bc fun h12 => by exact h12 rfl) ?_
        refine hold_stop (fun hd hb => ?_)
        refine ok_call0 hd W rfl ?_
        rintro x G ⟨rfl, rfl⟩
        refine ⟨rfl, fun g hg => (by cases hg), ?_⟩
        refine ok_sk (.stop []) (S := .stop (Hd.leaf (.bool true)) [] ([])) (by kernel_rfl) ?_
        refine hold_stop (fun hd hb => ?_)
        exact ok_leaf0 hd rfl ⟨rfl, rfl⟩
       refine ok_sk (.stop []) (S := .stop (Hd.leaf (.bool false)) [] ([])) (by kernel_rfl) ?_
       refine hold_stop (fun hd hb => ?_)
       exact absurd jy jz
      refine ok_sk (.stop [4]) (S := .stop (Hd.call 11 [.gsl 4 (47 + q)]) [4] ([(some (Blk.seq 4 1 (47 + q) (setRow (c.tmod (↑(47 + q) : Int)).toNat 0 [.sint .u8 (IntKind.u8.wrap (↑(BitVec.ofInt 8 (rowI s q P (c.tmod (↑(47 + q) : Int)).toNat) ^^^ BitVec.ofInt 8 b).toNat : Int))] (rowR s q P))), some (1, 47 + q, setRow (c.tmod (↑(47 + q) : Int)).toNat 0 [.sint .u8 (IntKind.u8.wrap (↑(BitVec.ofInt 8 (rowI s q P (c.tmod (↑(47 + q) : Int)).toNat) ^^^ BitVec.ofInt 8 b).toNat : Int))] (rowR s q P)))])) (by kernel_rfl) ?_
      refine hold_stop (fun hd hb => ?_)
      refine rget_own Y hd (look_get hb 0 rfl rfl).2 (Nat.le_refl _) (fun i hi => hY i) (by omega) (fun jz => ?_) (fun jz => ?_)
      ·
       refine ok_sk (.stop []) (S := .stop (Hd.leaf (.bool false)) [] ([])) (by kernel_rfl) ?_
       refine hold_stop (fun hd hb => ?_)
       exact absurd jz jy
      refine ok_sk (.stop []) (S := .stop (Hd.call 12 [.agg lpZ, .agg lpZ]) [] ([])) (by kernel_rfl) ?_
      refine hold_stop (fun hd hb => ?_)
      refine same_zero hd ?_
      refine ok_sk (.l (.l (.l (.stop [])))) (S := .left (@decide (47 + q ≤ 47 + q ∧ AllBytes (47 + q) (setRow (c.tmod (↑(47 + q) : Int)).toNat 0 [.sint .u8 (IntKind.u8.wrap (↑(BitVec.ofInt 8 (rowI s q P (c.tmod (↑(47 + q) : Int)).toNat) ^^^ BitVec.ofInt 8 b).toNat : Int))] (rowR s q P))) pd) (.left (@decide (47 + q ≤ 47 + q ∧ AllBytes (47 + q) (setRow (c.tmod (↑(47 + q) : Int)).toNat 0 [.sint .u8 (IntKind.u8.wrap (↑(BitVec.ofInt 8 (rowI s q P (c.tmod (↑(47 + q) : Int)).toNat) ^^^ BitVec.ofInt 8 b).toNat : Int))] (rowR s q P))) pd) (.left (decide (bytesOf (47 + q) (setRow (c.tmod (↑(47 + q) : Int)).toNat 0 [.sint .u8 (IntKind.u8.wrap (↑(BitVec.ofInt 8 (rowI s q P (c.tmod (↑(47 + q) : Int)).toNat) ^^^ BitVec.ofInt 8 b).toNat : Int))] (rowR s q P)) = bytesOf (47 + q) (setRow (c.tmod (↑(47 + q) : Int)).toNat 0 [.sint .u8 (IntKind.u8.wrap (↑(BitVec.ofInt 8 (rowI s q P (c.tmod (↑(47 + q) : Int)).toNat) ^^^ BitVec.ofInt 8 b).toNat : Int))] (rowR s q P)))) (.stop (Hd.call 5 []) [] ([]))))) (by kernel_rfl) ?_
      refine hl (bc fun h12 => by exact h12 ⟨Nat.le_refl _, all_S _ _ _ _ (xorI_bd _ _) _⟩) ?_
      refine hl (bc fun h12 => by exact h12 ⟨Nat.le_refl _, all_S _ _ _ _ (xorI_bd _ _) _⟩) ?_
      refine hl (bc fun h12 => by exact h12 rfl) ?_
      refine hold_stop (fun hd hb => ?_)
      refine ok_call0 hd W rfl ?_
      rintro x G ⟨rfl, rfl⟩
      refine ⟨rfl, fun g hg => (by cases hg), ?_⟩
      refine ok_sk (.stop []) (S := .stop (Hd.leaf (.bool true)) [] ([])) (by kernel_rfl) ?_
      refine hold_stop (fun hd hb => ?_)
      exact ok_leaf0 hd rfl ⟨rfl, rfl⟩
     refine ok_sk (.stop []) (S := .stop (Hd.leaf (.bool false)) [] ([])) (by kernel_rfl) ?_
     refine hold_stop (fun hd hb => ?_)
     exact absurd iy iz
    refine ok_sk (.stop []) (S := .stop (Hd.call 11 [.data 1 n (by8 y)]) [] ([])) (by kernel_rfl) ?_
    refine hold_stop (fun hd hb => ?_)
    refine ok_call0 hd (rgetT n y (by omega)) rfl ?_
    rintro x G (⟨iz, rfl, rfl⟩ | ⟨iz, rfl, rfl⟩) <;> first | refine ⟨rfl, fun g hg => (by rcases List.mem_singleton.1 hg with rfl; exact fun _ _ => rfl), ?_⟩ | refine ⟨rfl, fun g hg => (by cases hg), ?_⟩
    ·
     refine ok_sk (.stop []) (S := .stop (Hd.leaf (.bool false)) [] ([])) (by kernel_rfl) ?_
     refine hold_stop (fun hd hb => ?_)
     exact absurd iz iy
    refine ok_sk (.stop []) (S := .stop (Hd.call 12 [.agg lpZ, .agg lpZ]) [] ([])) (by kernel_rfl) ?_
    refine hold_stop (fun hd hb => ?_)
    refine same_zero hd ?_
    refine ok_sk (.l (.l (.l (.l (.l (.stop [11])))))) (S := .left (@decide (n ≤ n ∧ AllBytes n (by8 y)) pd) (.left (@decide (AllBytes n (by8 y)) pd) (.left (decide (bytesOf n (by8 y) = bytesOf n (by8 y))) (.left (decide (47 + q ≤ 47 + q)) (.left (@decide (47 + q < 65536 ∧ RowsOK 1 (47 + q) (setRow (c.tmod (↑(47 + q) : Int)).toNat 0 [.sint .u8 (IntKind.u8.wrap (↑(BitVec.ofInt 8 (rowI s q P (c.tmod (↑(47 + q) : Int)).toNat) ^^^ BitVec.ofInt 8 b).toNat : Int))] (rowR s q P))) pd) (.stop (Hd.call 10 [.gsl 11 (47 + q)]) [11] ([(some (Blk.seq 11 1 (47 + q) (setRow (c.tmod (↑(47 + q) : Int)).toNat 0 [.sint .u8 (IntKind.u8.wrap (↑(BitVec.ofInt 8 (rowI s q P (c.tmod (↑(47 + q) : Int)).toNat) ^^^ BitVec.ofInt 8 b).toNat : Int))] (rowR s q P))), some (1, 47 + q, setRow (c.tmod (↑(47 + q) : Int)).toNat 0 [.sint .u8 (IntKind.u8.wrap (↑(BitVec.ofInt 8 (rowI s q P (c.tmod (↑(47 + q) : Int)).toNat) ^^^ BitVec.ofInt 8 b).toNat : Int))] (rowR s q P)))]))))))) (by kernel_rfl) ?_
    refine hl (bc fun h9 => by exact h9 ⟨Nat.le_refl _, all_by8 _ _⟩) ?_
    refine hl (bc fun h9 => by exact h9 (all_by8 _ _)) ?_
    refine hl (bc fun h9 => by exact h9 rfl) ?_
    refine hl (bc fun h9 => by omega) ?_
    refine hl (bc fun h9 => by exact h9 ⟨by omega, rows_S _ _ _ _ _ _⟩) ?_
    refine hold_stop (fun hd hb => ?_)
    refine get_badY (xorI_bd _ _) hd (look_get hb 0 rfl rfl).2 (Nat.le_refl _) (by omega) fun Y hY => ⟨fun jy => ?_, fun jy => ?_⟩
    ·
     refine ok_sk (.stop [4]) (S := .stop (Hd.call 11 [.gsl 4 (47 + q)]) [4] ([(some (Blk.seq 4 1 (47 + q) (setRow (c.tmod (↑(47 + q) : Int)).toNat 0 [.sint .u8 (IntKind.u8.wrap (↑(BitVec.ofInt 8 (rowI s q P (c.tmod (↑(47 + q) : Int)).toNat) ^^^ BitVec.ofInt 8 b).toNat : Int))] (rowR s q P))), some (1, 47 + q, setRow (c.tmod (↑(47 + q) : Int)).toNat 0 [.sint .u8 (IntKind.u8.wrap (↑(BitVec.ofInt 8 (rowI s q P (c.tmod (↑(47 + q) : Int)).toNat) ^^^ BitVec.ofInt 8 b).toNat : Int))] (rowR s q P)))])) (by kernel_rfl) ?_
     refine hold_stop (fun hd hb => ?_)
     refine rget_own Y hd (look_get hb 0 rfl rfl).2 (Nat.le_refl _) (fun i hi => hY i) (by omega) (fun jz => ?_) (fun jz => ?_)
     ·
      refine ok_sk (.stop [12, 14]) (S := .stop (Hd.call 12 [.agg [.sint .u8 (stY Y (n8 (sh Y 22) - 1)).d, .sint .i64 (stY Y (n8 (sh Y 22) - 1)).w, .sint .u8 (stY Y (n8 (sh Y 22) - 1)).k, .sint .u64 (stY Y (n8 (sh Y 22) - 1)).n, .sint .i64 (stY Y (n8 (sh Y 22) - 1)).t, .sint .i64 (stY Y (n8 (sh Y 22) - 1)).a, .sint .u64 (stY Y (n8 (sh Y 22) - 1)).r, .sint .u64 (stY Y (n8 (sh Y 22) - 1)).o, .sint .i64 (stY Y (n8 (sh Y 22) - 1)).K, .sint .i64 (stY Y (n8 (sh Y 22) - 1)).J, .sint .i64 (stY Y (n8 (sh Y 22) - 1)).N, .gsl 12 (n1 (sh Y 46)).toNat], .agg [.sint .u8 (stY Y (n8 (sh Y 22) - 1)).d, .sint .i64 (stY Y (n8 (sh Y 22) - 1)).w, .sint .u8 (stY Y (n8 (sh Y 22) - 1)).k, .sint .u64 (stY Y (n8 (sh Y 22) - 1)).n, .sint .i64 (stY Y (n8 (sh Y 22) - 1)).t, .sint .i64 (stY Y (n8 (sh Y 22) - 1)).a, .sint .u64 (stY Y (n8 (sh Y 22) - 1)).r, .sint .u64 (stY Y (n8 (sh Y 22) - 1)).o, .sint .i64 (stY Y (n8 (sh Y 22) - 1)).K, .sint .i64 (stY Y (n8 (sh Y 22) - 1)).J, .sint .i64 (stY Y (n8 (sh Y 22) - 1)).N, .gsl 14 (n1 (sh Y 46)).toNat]]) [12, 14] ([(some (Blk.seq 12 1 (n1 (sh Y 46)).toNat (pk Y)), some (1, (n1 (sh Y 46)).toNat, pk Y)), (some (Blk.seq 14 1 (n1 (sh Y 46)).toNat (pk Y)), some (1, (n1 (sh Y 46)).toNat, pk Y))])) (by kernel_rfl) ?_
      refine hold_stop (fun hd hb => ?_)
      refine same_own hd (look_get hb 0 rfl rfl).2 (look_get hb 1 rfl rfl).2 ?_
      refine ok_sk (.l (.l (.l (.stop [])))) (S := .left (@decide (47 + q ≤ 47 + q ∧ AllBytes (47 + q) (setRow (c.tmod (↑(47 + q) : Int)).toNat 0 [.sint .u8 (IntKind.u8.wrap (↑(BitVec.ofInt 8 (rowI s q P (c.tmod (↑(47 + q) : Int)).toNat) ^^^ BitVec.ofInt 8 b).toNat : Int))] (rowR s q P))) pd) (.left (@decide (47 + q ≤ 47 + q ∧ AllBytes (47 + q) (setRow (c.tmod (↑(47 + q) : Int)).toNat 0 [.sint .u8 (IntKind.u8.wrap (↑(BitVec.ofInt 8 (rowI s q P (c.tmod (↑(47 + q) : Int)).toNat) ^^^ BitVec.ofInt 8 b).toNat : Int))] (rowR s q P))) pd) (.left (decide (bytesOf (47 + q) (setRow (c.tmod (↑(47 + q) : Int)).toNat 0 [.sint .u8 (IntKind.u8.wrap (↑(BitVec.ofInt 8 (rowI s q P (c.tmod (↑(47 + q) : Int)).toNat) ^^^ BitVec.ofInt 8 b).toNat : Int))] (rowR s q P)) = bytesOf (47 + q) (setRow (c.tmod (↑(47 + q) : Int)).toNat 0 [.sint .u8 (IntKind.u8.wrap (↑(BitVec.ofInt 8 (rowI s q P (c.tmod (↑(47 + q) : Int)).toNat) ^^^ BitVec.ofInt 8 b).toNat : Int))] (rowR s q P)))) (.stop (Hd.call 5 []) [] ([]))))) (by kernel_rfl) ?_
      refine hl (bc fun h12 => by exact h12 ⟨Nat.le_refl _, all_S _ _ _ _ (xorI_bd _ _) _⟩) ?_
      refine hl (bc fun h12 => by exact h12 ⟨Nat.le_refl _, all_S _ _ _ _ (xorI_bd _ _) _⟩) ?_
      refine hl (bc fun h12 => by exact h12 rfl) ?_
      refine hold_stop (fun hd hb => ?_)
      refine ok_call0 hd W rfl ?_
      rintro x G ⟨rfl, rfl⟩
      refine ⟨rfl, fun g hg => (by cases hg), ?_⟩
      refine ok_sk (.stop []) (S := .stop (Hd.leaf (.bool true)) [] ([])) (by kernel_rfl) ?_
      refine hold_stop (fun hd hb => ?_)
      exact ok_leaf0 hd rfl ⟨rfl, rfl⟩
     refine ok_sk (.stop []) (S := .stop (Hd.leaf (.bool false)) [] ([])) (by kernel_rfl) ?_
     refine hold_stop (fun hd hb => ?_)
     exact absurd jy jz
    refine ok_sk (.stop [4]) (S := .stop (Hd.call 11 [.gsl 4 (47 + q)]) [4] ([(some (Blk.seq 4 1 (47 + q) (setRow (c.tmod (↑(47 + q) : Int)).toNat 0 [.sint .u8 (IntKind.u8.wrap (↑(BitVec.ofInt 8 (rowI s q P (c.tmod (↑(47 + q) : Int)).toNat) ^^^ BitVec.ofInt 8 b).toNat : Int))] (rowR s q P))), some (1, 47 + q, setRow (c.tmod (↑(47 + q) : Int)).toNat 0 [.sint .u8 (IntKind.u8.wrap (↑(BitVec.ofInt 8 (rowI s q P (c.tmod (↑(47 + q) : Int)).toNat) ^^^ BitVec.ofInt 8 b).toNat : Int))] (rowR s q P)))])) (by kernel_rfl) ?_
    refine hold_stop (fun hd hb => ?_)
    refine rget_own Y hd (look_get hb 0 rfl rfl).2 (Nat.le_refl _) (fun i hi => hY i) (by omega) (fun jz => ?_) (fun jz => ?_)
    ·
     refine ok_sk (.stop []) (S := .stop (Hd.leaf (.bool false)) [] ([])) (by kernel_rfl) ?_
     refine hold_stop (fun hd hb => ?_)
     exact absurd jz jy
    refine ok_sk (.stop []) (S := .stop (Hd.call 12 [.agg lpZ, .agg lpZ]) [] ([])) (by kernel_rfl) ?_
    refine hold_stop (fun hd hb => ?_)
    refine same_zero hd ?_
    refine ok_sk (.l (.l (.l (.stop [])))) (S := .left (@decide (47 + q ≤ 47 + q ∧ AllBytes (47 + q) (setRow (c.tmod (↑(47 + q) : Int)).toNat 0 [.sint .u8 (IntKind.u8.wrap (↑(BitVec.ofInt 8 (rowI s q P (c.tmod (↑(47 + q) : Int)).toNat) ^^^ BitVec.ofInt 8 b).toNat : Int))] (rowR s q P))) pd) (.left (@decide (47 + q ≤ 47 + q ∧ AllBytes (47 + q) (setRow (c.tmod (↑(47 + q) : Int)).toNat 0 [.sint .u8 (IntKind.u8.wrap (↑(BitVec.ofInt 8 (rowI s q P (c.tmod (↑(47 + q) : Int)).toNat) ^^^ BitVec.ofInt 8 b).toNat : Int))] (rowR s q P))) pd) (.left (decide (bytesOf (47 + q) (setRow (c.tmod (↑(47 + q) : Int)).toNat 0 [.sint .u8 (IntKind.u8.wrap (↑(BitVec.ofInt 8 (rowI s q P (c.tmod (↑(47 + q) : Int)).toNat) ^^^ BitVec.ofInt 8 b).toNat : Int))] (rowR s q P)) = bytesOf (47 + q) (setRow (c.tmod (↑(47 + q) : Int)).toNat 0 [.sint .u8 (IntKind.u8.wrap (↑(BitVec.ofInt 8 (rowI s q P (c.tmod (↑(47 + q) : Int)).toNat) ^^^ BitVec.ofInt 8 b).toNat : Int))] (rowR s q P)))) (.stop (Hd.call 5 []) [] ([]))))) (by kernel_rfl) ?_
    refine hl (bc fun h12 => by exact h12 ⟨Nat.le_refl _, all_S _ _ _ _ (xorI_bd _ _) _⟩) ?_
    refine hl (bc fun h12 => by exact h12 ⟨Nat.le_refl _, all_S _ _ _ _ (xorI_bd _ _) _⟩) ?_
    refine hl (bc fun h12 => by exact h12 rfl) ?_
    refine hold_stop (fun hd hb => ?_)
    refine ok_call0 hd W rfl ?_
    rintro x G ⟨rfl, rfl⟩
    refine ⟨rfl, fun g hg => (by cases hg), ?_⟩
    refine ok_sk (.stop []) (S := .stop (Hd.leaf (.bool true)) [] ([])) (by kernel_rfl) ?_
    refine hold_stop (fun hd hb => ?_)
    exact ok_leaf0 hd rfl ⟨rfl, rfl⟩
   refine ok_sk (.stop []) (S := .stop (Hd.leaf (.bool false)) [] ([])) (by kernel_rfl) ?_
   refine hold_stop (fun hd hb => ?_)
   exact absurd my mz
  refine ok_sk (.l (.l (.l (.l (.l (.l (.l (.l (.l (.l (.l (.l (.stop []))))))))))))) (S := .left (decide (s.d = s.d)) (.left (decide (s.w = s.w)) (.left (decide (s.k = s.k)) (.left (decide (s.n = s.n)) (.left (decide (s.t = s.t)) (.left (decide (s.a = s.a)) (.left (decide (s.r = s.r)) (.left (decide (s.o = s.o)) (.left (decide (s.K = s.K)) (.left (decide (s.J = s.J)) (.left (decide (s.N = s.N)) (.left (@decide (s3 (q) (fun (i : Nat) => [.sint .i64 (P i)])) pd) (.stop (Hd.call 8 [.agg (s.row (ints q P))]) [] ([])))))))))))))) (by kernel_rfl) ?_
  refine hl (bc fun h4 => by omega) ?_
  refine hl (bc fun h4 => by omega) ?_
  refine hl (bc fun h4 => by omega) ?_
  refine hl (bc fun h4 => by omega) ?_
  refine hl (bc fun h4 => by omega) ?_
  refine hl (bc fun h4 => by omega) ?_
  refine hl (bc fun h4 => by omega) ?_
  refine hl (bc fun h4 => by omega) ?_
  refine hl (bc fun h4 => by omega) ?_
  refine hl (bc fun h4 => by omega) ?_
  refine hl (bc fun h4 => by omega) ?_
  refine hl (bc fun h4 => by exact h4 ⟨rfl, rfl, rfl⟩) ?_
  refine hold_stop (fun hd hb => ?_)
  refine ok_call0 hd (rmayT s q P (by omega) hr) rfl ?_
  rintro x G ⟨rfl, ⟨rfl, mz⟩ | ⟨rfl, mz⟩⟩ <;> refine ⟨rfl, fun g hg => (by cases hg), ?_⟩
  ·
   refine ok_sk (.stop []) (S := .stop (Hd.leaf (.bool false)) [] ([])) (by kernel_rfl) ?_
   refine hold_stop (fun hd hb => ?_)
   exact absurd mp my
  refine ok_sk (.l (.stop [])) (S := .left (@decide (47 + q ≤ 47 + q ∧ AllBytes (47 + q) (rowR s q P)) pd) (.stop (Hd.call 9 [.agg (s.row (ints q P))]) [] ([]))) (by kernel_rfl) ?_
  refine hl (bc fun h5 => by exact h5 ⟨Nat.le_refl _, all_rowR _ _ _ _⟩) ?_
  refine hold_stop (fun hd hb => ?_)
  refine ok_call0 hd (rputR s q P (by omega) hr) rfl ?_
  rintro x G (⟨rfl, rfl, mw⟩ | ⟨mw, rfl, rfl⟩) <;> first | refine ⟨rfl, fun g hg => (by rcases List.mem_singleton.1 hg with rfl; exact fun _ _ => rfl), ?_⟩ | refine ⟨rfl, fun g hg => (by cases hg), ?_⟩
  ·
   refine ok_sk (.l (.l (.l (.both (.l (.l (.l (.l (.r (.l (.l (.l (.l (.l (.stop [6]))))))))))) (.stop []))))) (S := .left (@decide (47 + q ≤ 47 + q ∧ AllBytes (47 + q) (rowR s q P)) pd) (.left (decide (bytesOf (47 + q) (rowR s q P) = bytesOf (47 + q) (rowR s q P))) (.left (decide (47 + q = 47 + q)) (.fork (decide (bytesOf (47 + q) (rowR s q P) = [])) (.left (decide (47 + q ≤ 47 + q)) (.left (@decide (47 + q < 65536 ∧ RowsOK 1 (47 + q) (rowR s q P)) pd) (.left (decide (0 < (↑(47 + q) : Int))) (.left (decide ((-9223372036854775808 : Int) ≤ c ∧ c ≤ 9223372036854775807)) (.right (decide ((↑(47 + q) : Int) = 0)) (.left (decide (0 ≤ c.tmod (↑(47 + q) : Int) ∧ (c.tmod (↑(47 + q) : Int)).toNat < 47 + q)) (.left (decide ((c.tmod (↑(47 + q) : Int)).toNat < 47 + q)) (.left (decide (0 ≤ c.tmod (↑(47 + q) : Int) ∧ (c.tmod (↑(47 + q) : Int)).toNat < 47 + q)) (.left (decide ((c.tmod (↑(47 + q) : Int)).toNat < 47 + q)) (.left (@decide (n < 65536 ∧ RowsOK 1 n (by8 y)) pd) (.stop (Hd.call 10 [.gsl 6 n]) [6] ([(some (Blk.seq 6 1 n (by8 y)), some (1, n, by8 y))])))))))))))) (.stop (Hd.leaf (.bool false)) [] ([])))))) (by kernel_rfl) ?_
   refine hl (bc fun h6 => by exact h6 ⟨Nat.le_refl _, all_rowR _ _ _ _⟩) ?_
   refine hl (bc fun h6 => by exact h6 rfl) ?_
   refine hl (bc fun h6 => by omega) ?_
   refine hold_forkD (fun h6 => ?_) (fun h6 => ?_)
   ·
    refine hl (bc fun h7 => by omega) ?_
    refine hl (bc fun h7 => by exact h7 ⟨by omega, fun i hi => ⟨rfl, rfl⟩⟩) ?_
    refine hl (bc fun h7 => by omega) ?_
    refine hl (bc fun h7 => by omega) ?_
    refine hzr (fun h7 => by omega) ?_
    refine hl (bc fun h7 => by omega) ?_
    refine hl (bc fun h7 => by omega) ?_
    refine hl (bc fun h7 => by omega) ?_
    refine hl (bc fun h7 => by omega) ?_
    refine hl (bc fun h7 => by exact h7 ⟨by omega, fun i hi => ⟨rfl, rfl⟩⟩) ?_
    refine hold_stop (fun hd hb => ?_)
    refine get_own y hd (look_get hb 0 rfl rfl).2 (Nat.le_refl _) (fun i hi => ⟨rfl, rfl⟩) (by omega) (fun iy => ?_) (fun iy => ?_)
    ·
     refine ok_sk (.stop []) (S := .stop (Hd.call 11 [.data 1 n (by8 y)]) [] ([])) (by kernel_rfl) ?_
     refine hold_stop (fun hd hb => ?_)
     refine ok_call0 hd (rgetT n y (by omega)) rfl ?_
     rintro x G (⟨iz, rfl, rfl⟩ | ⟨iz, rfl, rfl⟩) <;> first | refine ⟨rfl, fun g hg => (by rcases List.mem_singleton.1 hg with rfl; exact fun _ _ => rfl), ?_⟩ | refine ⟨rfl, fun g hg => (by cases hg), ?_⟩
     ·
      refine ok_sk (.stop [7, 9]) (S := .stop (Hd.call 12 [.agg [.sint .u8 (stY y (n8 (sh y 22) - 1)).d, .sint .i64 (stY y (n8 (sh y 22) - 1)).w, .sint .u8 (stY y (n8 (sh y 22) - 1)).k, .sint .u64 (stY y (n8 (sh y 22) - 1)).n, .sint .i64 (stY y (n8 (sh y 22) - 1)).t, .sint .i64 (stY y (n8 (sh y 22) - 1)).a, .sint .u64 (stY y (n8 (sh y 22) - 1)).r, .sint .u64 (stY y (n8 (sh y 22) - 1)).o, .sint .i64 (stY y (n8 (sh y 22) - 1)).K, .sint .i64 (stY y (n8 (sh y 22) - 1)).J, .sint .i64 (stY y (n8 (sh y 22) - 1)).N, .gsl 7 (n1 (sh y 46)).toNat], .agg [.sint .u8 (stY y (n8 (sh y 22) - 1)).d, .sint .i64 (stY y (n8 (sh y 22) - 1)).w, .sint .u8 (stY y (n8 (sh y 22) - 1)).k, .sint .u64 (stY y (n8 (sh y 22) - 1)).n, .sint .i64 (stY y (n8 (sh y 22) - 1)).t, .sint .i64 (stY y (n8 (sh y 22) - 1)).a, .sint .u64 (stY y (n8 (sh y 22) - 1)).r, .sint .u64 (stY y (n8 (sh y 22) - 1)).o, .sint .i64 (stY y (n8 (sh y 22) - 1)).K, .sint .i64 (stY y (n8 (sh y 22) - 1)).J, .sint .i64 (stY y (n8 (sh y 22) - 1)).N, .gsl 9 (n1 (sh y 46)).toNat]]) [7, 9] ([(some (Blk.seq 7 1 (n1 (sh y 46)).toNat (pk y)), some (1, (n1 (sh y 46)).toNat, pk y)), (some (Blk.seq 9 1 (n1 (sh y 46)).toNat (pk y)), some (1, (n1 (sh y 46)).toNat, pk y))])) (by kernel_rfl) ?_
      refine hold_stop (fun hd hb => ?_)
      refine same_own hd (look_get hb 0 rfl rfl).2 (look_get hb 1 rfl rfl).2 ?_
      refine ok_sk (.l (.l (.l (.l (.l (.stop [12])))))) (S := .left (@decide (n ≤ n ∧ AllBytes n (by8 y)) pd) (.left (@decide (AllBytes n (by8 y)) pd) (.left (decide (bytesOf n (by8 y) = bytesOf n (by8 y))) (.left (decide (47 + q ≤ 47 + q)) (.left (@decide (47 + q < 65536 ∧ RowsOK 1 (47 + q) (setRow (c.tmod (↑(47 + q) : Int)).toNat 0 [.sint .u8 (IntKind.u8.wrap (↑(BitVec.ofInt 8 (rowI s q P (c.tmod (↑(47 + q) : Int)).toNat) ^^^ BitVec.ofInt 8 b).toNat : Int))] (rowR s q P))) pd) (.stop (Hd.call 10 [.gsl 12 (47 + q)]) [12] ([(some (Blk.seq 12 1 (47 + q) (setRow (c.tmod (↑(47 + q) : Int)).toNat 0 [.sint .u8 (IntKind.u8.wrap (↑(BitVec.ofInt 8 (rowI s q P (c.tmod (↑(47 + q) : Int)).toNat) ^^^ BitVec.ofInt 8 b).toNat : Int))] (rowR s q P))), some (1, 47 + q, setRow (c.tmod (↑(47 + q) : Int)).toNat 0 [.sint .u8 (IntKind.u8.wrap (↑(BitVec.ofInt 8 (rowI s q P (c.tmod (↑(47 + q) : Int)).toNat) ^^^ BitVec.ofInt 8 b).toNat : Int))] (rowR s q P)))]))))))) (by kernel_rfl) ?_
      refine hl (bc fun h10 => by exact h10 ⟨Nat.le_refl _, all_by8 _ _⟩) ?_
      refine hl (bc fun h10 => by exact h10 (all_by8 _ _)) ?_
      refine hl (bc fun h10 => by exact h10 rfl) ?_
      refine hl (bc fun h10 => by omega) ?_
      refine hl (bc fun h10 => by exact h10 ⟨by omega, rows_S _ _ _ _ _ _⟩) ?_
      refine hold_stop (fun hd hb => ?_)
      refine get_badY (xorI_bd _ _) hd (look_get hb 0 rfl rfl).2 (Nat.le_refl _) (by omega) fun Y hY => ⟨fun jy => ?_, fun jy => ?_⟩
      ·
       refine ok_sk (.stop [3]) (S := .stop (Hd.call 11 [.gsl 3 (47 + q)]) [3] ([(some (Blk.seq 3 1 (47 + q) (setRow (c.tmod (↑(47 + q) : Int)).toNat 0 [.sint .u8 (IntKind.u8.wrap (↑(BitVec.ofInt 8 (rowI s q P (c.tmod (↑(47 + q) : Int)).toNat) ^^^ BitVec.ofInt 8 b).toNat : Int))] (rowR s q P))), some (1, 47 + q, setRow (c.tmod (↑(47 + q) : Int)).toNat 0 [.sint .u8 (IntKind.u8.wrap (↑(BitVec.ofInt 8 (rowI s q P (c.tmod (↑(47 + q) : Int)).toNat) ^^^ BitVec.ofInt 8 b).toNat : Int))] (rowR s q P)))])) (by kernel_rfl) ?_
       refine hold_stop (fun hd hb => ?_)
       refine rget_own Y hd (look_get hb 0 rfl rfl).2 (Nat.le_refl _) (fun i hi => hY i) (by omega) (fun jz => ?_) (fun jz => ?_)
       ·
        refine ok_sk (.stop [13, 15]) (S := .stop (Hd.call 12 [.agg [.sint .u8 (stY Y (n8 (sh Y 22) - 1)).d, .sint .i64 (stY Y (n8 (sh Y 22) - 1)).w, .sint .u8 (stY Y (n8 (sh Y 22) - 1)).k, .sint .u64 (stY Y (n8 (sh Y 22) - 1)).n, .sint .i64 (stY Y (n8 (sh Y 22) - 1)).t, .sint .i64 (stY Y (n8 (sh Y 22) - 1)).a, .sint .u64 (stY Y (n8 (sh Y 22) - 1)).r, .sint .u64 (stY Y (n8 (sh Y 22) - 1)).o, .sint .i64 (stY Y (n8 (sh Y 22) - 1)).K, .sint .i64 (stY Y (n8 (sh Y 22) - 1)).J, .sint .i64 (stY Y (n8 (sh Y 22) - 1)).N, .gsl 13 (n1 (sh Y 46)).toNat], .agg [.sint .u8 (stY Y (n8 (sh Y 22) - 1)).d, .sint .i64 (stY Y (n8 (sh Y 22) - 1)).w, .sint .u8 (stY Y (n8 (sh Y 22) - 1)).k, .sint .u64 (stY Y (n8 (sh Y 22) - 1)).n, .sint .i64 (stY Y (n8 (sh Y 22) - 1)).t, .sint .i64 (stY Y (n8 (sh Y 22) - 1)).a, .sint .u64 (stY Y (n8 (sh Y 22) - 1)).r, .sint .u64 (stY Y (n8 (sh Y 22) - 1)).o, .sint .i64 (stY Y (n8 (sh Y 22) - 1)).K, .sint .i64 (stY Y (n8 (sh Y 22) - 1)).J, .sint .i64 (stY Y (n8 (sh Y 22) - 1)).N, .gsl 15 (n1 (sh Y 46)).toNat]]) [13, 15] ([(some (Blk.seq 13 1 (n1 (sh Y 46)).toNat (pk Y)), some (1, (n1 (sh Y 46)).toNat, pk Y)), (some (Blk.seq 15 1 (n1 (sh Y 46)).toNat (pk Y)), some (1, (n1 (sh Y 46)).toNat, pk Y))])) (by kernel_rfl) ?_
        refine hold_stop (fun hd hb => ?_)
        refine same_own hd (look_get hb 0 rfl rfl).2 (look_get hb 1 rfl rfl).2 ?_
        refine ok_sk (.l (.l (.l (.stop [])))) (S := .left (@decide (47 + q ≤ 47 + q ∧ AllBytes (47 + q) (setRow (c.tmod (↑(47 + q) : Int)).toNat 0 [.sint .u8 (IntKind.u8.wrap (↑(BitVec.ofInt 8 (rowI s q P (c.tmod (↑(47 + q) : Int)).toNat) ^^^ BitVec.ofInt 8 b).toNat : Int))] (rowR s q P))) pd) (.left (@decide (47 + q ≤ 47 + q ∧ AllBytes (47 + q) (setRow (c.tmod (↑(47 + q) : Int)).toNat 0 [.sint .u8 (IntKind.u8.wrap (↑(BitVec.ofInt 8 (rowI s q P (c.tmod (↑(47 + q) : Int)).toNat) ^^^ BitVec.ofInt 8 b).toNat : Int))] (rowR s q P))) pd) (.left (decide (bytesOf (47 + q) (setRow (c.tmod (↑(47 + q) : Int)).toNat 0 [.sint .u8 (IntKind.u8.wrap (↑(BitVec.ofInt 8 (rowI s q P (c.tmod (↑(47 + q) : Int)).toNat) ^^^ BitVec.ofInt 8 b).toNat : Int))] (rowR s q P)) = bytesOf (47 + q) (setRow (c.tmod (↑(47 + q) : Int)).toNat 0 [.sint .u8 (IntKind.u8.wrap (↑(BitVec.ofInt 8 (rowI s q P (c.tmod (↑(47 + q) : Int)).toNat) ^^^ BitVec.ofInt 8 b).toNat : Int))] (rowR s q P)))) (.stop (Hd.call 5 []) [] ([]))))) (by kernel_rfl) ?_
        refine hl (bc fun h13 => by exact h13 ⟨Nat.le_refl _, all_S _ _ _ _ (xorI_bd _ _) _⟩) ?_
        refine hl (bc fun h13 => by exact h13 ⟨Nat.le_refl _, all_S _ _ _ _ (xorI_bd _ _) _⟩) ?_
        refine hl (bc fun h13 => by exact h13 rfl) ?_
        refine hold_stop (fun hd hb => ?_)
        refine ok_call0 hd W rfl ?_
        rintro x G ⟨rfl, rfl⟩
        refine ⟨rfl, fun g hg => (by cases hg), ?_⟩
        refine ok_sk (.stop []) (S := .stop (Hd.leaf (.bool true)) [] ([])) (by kernel_rfl) ?_
        refine hold_stop (fun hd hb => ?_)
        exact ok_leaf0 hd rfl ⟨rfl, rfl⟩
       refine ok_sk (.stop []) (S := .stop (Hd.leaf (.bool false)) [] ([])) (by kernel_rfl) ?_
       refine hold_stop (fun hd hb => ?_)
       exact absurd mp my
      refine ok_sk (.stop [3]) (S := .stop (Hd.call 11 [.gsl 3 (47 + q)]) [3] ([(some (Blk.seq 3 1 (47 + q) (setRow (c.tmod (↑(47 + q) : Int)).toNat 0 [.sint .u8 (IntKind.u8.wrap (↑(BitVec.ofInt 8 (rowI s q P (c.tmod (↑(47 + q) : Int)).toNat) ^^^ BitVec.ofInt 8 b).toNat : Int))] (rowR s q P))), some (1, 47 + q, setRow (c.tmod (↑(47 + q) : Int)).toNat 0 [.sint .u8 (IntKind.u8.wrap (↑(BitVec.ofInt 8 (rowI s q P (c.tmod (↑(47 + q) : Int)).toNat) ^^^ BitVec.ofInt 8 b).toNat : Int))] (rowR s q P)))])) (by kernel_rfl) ?_
      refine hold_stop (fun hd hb => ?_)
      refine rget_own Y hd (look_get hb 0 rfl rfl).2 (Nat.le_refl _) (fun i hi => hY i) (by omega) (fun jz => ?_) (fun jz => ?_)
      ·
       refine ok_sk (.stop []) (S := .stop (Hd.leaf (.bool false)) [] ([])) (by kernel_rfl) ?_
       refine hold_stop (fun hd hb => ?_)
       exact absurd mp my
      refine ok_sk (.stop []) (S := .stop (Hd.call 12 [.agg lpZ, .agg lpZ]) [] ([])) (by kernel_rfl) ?_
      refine hold_stop (fun hd hb => ?_)
      refine same_zero hd ?_
      refine ok_sk (.l (.l (.l (.stop [])))) (S := .left (@decide (47 + q ≤ 47 + q ∧ AllBytes (47 + q) (setRow (c.tmod (↑(47 + q) : Int)).toNat 0 [.sint .u8 (IntKind.u8.wrap (↑(BitVec.ofInt 8 (rowI s q P (c.tmod (↑(47 + q) : Int)).toNat) ^^^ BitVec.ofInt 8 b).toNat : Int))] (rowR s q P))) pd) (.left (@decide (47 + q ≤ 47 + q ∧ AllBytes (47 + q) (setRow (c.tmod (↑(47 + q) : Int)).toNat 0 [.sint .u8 (IntKind.u8.wrap (↑(BitVec.ofInt 8 (rowI s q P (c.tmod (↑(47 + q) : Int)).toNat) ^^^ BitVec.ofInt 8 b).toNat : Int))] (rowR s q P))) pd) (.left (decide (bytesOf (47 + q) (setRow (c.tmod (↑(47 + q) : Int)).toNat 0 [.sint .u8 (IntKind.u8.wrap (↑(BitVec.ofInt 8 (rowI s q P (c.tmod (↑(47 + q) : Int)).toNat) ^^^ BitVec.ofInt 8 b).toNat : Int))] (rowR s q P)) = bytesOf (47 + q) (setRow (c.tmod (↑(47 + q) : Int)).toNat 0 [.sint .u8 (IntKind.u8.wrap (↑(BitVec.ofInt 8 (rowI s q P (c.tmod (↑(47 + q) : Int)).toNat) ^^^ BitVec.ofInt 8 b).toNat : Int))] (rowR s q P)))) (.stop (Hd.call 5 []) [] ([]))))) (by kernel_rfl) ?_
      refine hl (bc fun h13 => by exact h13 ⟨Nat.le_refl _, all_S _ _ _ _ (xorI_bd _ _) _⟩) ?_
      refine hl (bc fun h13 => by exact h13 ⟨Nat.le_refl _, all_S _ _ _ _ (xorI_bd _ _) _⟩) ?_
      refine hl (bc fun h13 => by exact h13 rfl) ?_
      refine hold_stop (fun hd hb => ?_)
      refine ok_call0 hd W rfl ?_
      rintro x G ⟨rfl, rfl⟩
      refine ⟨rfl, fun g hg => (by cases hg), ?_⟩
      refine ok_sk (.stop []) (S := .stop (Hd.leaf (.bool true)) [] ([])) (by kernel_rfl) ?_
      refine hold_stop (fun hd hb => ?_)
      exact ok_leaf0 hd rfl ⟨rfl, rfl⟩
     refine ok_sk (.stop []) (S := .stop (Hd.leaf (.bool false)) [] ([])) (by kernel_rfl) ?_
     refine hold_stop (fun hd hb => ?_)
     exact absurd mp my
    refine ok_sk (.stop []) (S := .stop (Hd.call 11 [.data 1 n (by8 y)]) [] ([])) (by kernel_rfl) ?_
    refine hold_stop (fun hd hb => ?_)
    refine ok_call0 hd (rgetT n y (by omega)) rfl ?_
    rintro x G (⟨iz, rfl, rfl⟩ | ⟨iz, rfl, rfl⟩) <;> first | refine ⟨rfl, fun g hg => (by rcases List.mem_singleton.1 hg with rfl; exact fun _ _ => rfl), ?_⟩ | refine ⟨rfl, fun g hg => (by cases hg), ?_⟩
    ·
     refine ok_sk (.stop []) (S := .stop (Hd.leaf (.bool false)) [] ([])) (by kernel_rfl) ?_
     refine hold_stop (fun hd hb => ?_)
     exact absurd mp my
    refine ok_sk (.stop []) (S := .stop (Hd.call 12 [.agg lpZ, .agg lpZ]) [] ([])) (by kernel_rfl) ?_
    refine hold_stop (fun hd hb => ?_)
    refine same_zero hd ?_
    refine ok_sk (.l (.l (.l (.l (.l (.stop [10])))))) (S := .left (@decide (n ≤ n ∧ AllBytes n (by8 y)) pd) (.left (@decide (AllBytes n (by8 y)) pd) (.left (decide (bytesOf n (by8 y) = bytesOf n (by8 y))) (.left (decide (47 + q ≤ 47 + q)) (.left (@decide (47 + q < 65536 ∧ RowsOK 1 (47 + q) (setRow (c.tmod (↑(47 + q) : Int)).toNat 0 [.sint .u8 (IntKind.u8.wrap (↑(BitVec.ofInt 8 (rowI s q P (c.tmod (↑(47 + q) : Int)).toNat) ^^^ BitVec.ofInt 8 b).toNat : Int))] (rowR s q P))) pd) (.stop (Hd.call 10 [.gsl 10 (47 + q)]) [10] ([(some (Blk.seq 10 1 (47 + q) (setRow (c.tmod (↑(47 + q) : Int)).toNat 0 [.sint .u8 (IntKind.u8.wrap (↑(BitVec.ofInt 8 (rowI s q P (c.tmod (↑(47 + q) : Int)).toNat) ^^^ BitVec.ofInt 8 b).toNat : Int))] (rowR s q P))), some (1, 47 + q, setRow (c.tmod (↑(47 + q) : Int)).toNat 0 [.sint .u8 (IntKind.u8.wrap (↑(BitVec.ofInt 8 (rowI s q P (c.tmod (↑(47 + q) : Int)).toNat) ^^^ BitVec.ofInt 8 b).toNat : Int))] (rowR s q P)))]))))))) (by kernel_rfl) ?_
    refine hl (bc fun h10 => by exact h10 ⟨Nat.le_refl _, all_by8 _ _⟩) ?_
    refine hl (bc fun h10 => by exact h10 (all_by8 _ _)) ?_
    refine hl (bc fun h10 => by exact h10 rfl) ?_
    refine hl (bc fun h10 => by omega) ?_
    refine hl (bc fun h10 => by exact h10 ⟨by omega, rows_S _ _ _ _ _ _⟩) ?_
    refine hold_stop (fun hd hb => ?_)
    refine get_badY (xorI_bd _ _) hd (look_get hb 0 rfl rfl).2 (Nat.le_refl _) (by omega) fun Y hY => ⟨fun jy => ?_, fun jy => ?_⟩
    ·
     refine ok_sk (.stop [3]) (S := .stop (Hd.call 11 [.gsl 3 (47 + q)]) [3] ([(some (Blk.seq 3 1 (47 + q) (setRow (c.tmod (↑(47 + q) : Int)).toNat 0 [.sint .u8 (IntKind.u8.wrap (↑(BitVec.ofInt 8 (rowI s q P (c.tmod (↑(47 + q) : Int)).toNat) ^^^ BitVec.ofInt 8 b).toNat : Int))] (rowR s q P))), some (1, 47 + q, setRow (c.tmod (↑(47 + q) : Int)).toNat 0 [.sint .u8 (IntKind.u8.wrap (↑(BitVec.ofInt 8 (rowI s q P (c.tmod (↑(47 + q) : Int)).toNat) ^^^ BitVec.ofInt 8 b).toNat : Int))] (rowR s q P)))])) (by kernel_rfl) ?_
     refine hold_stop (fun hd hb => ?_)
     refine rget_own Y hd (look_get hb 0 rfl rfl).2 (Nat.le_refl _) (fun i hi => hY i) (by omega) (fun jz => ?_) (fun jz => ?_)
     ·
      refine ok_sk (.stop [11, 13]) (S := .stop (Hd.call 12 [.agg [.sint .u8 (stY Y (n8 (sh Y 22) - 1)).d, .sint .i64 (stY Y (n8 (sh Y 22) - 1)).w, .sint .u8 (stY Y (n8 (sh Y 22) - 1)).k, .sint .u64 (stY Y (n8 (sh Y 22) - 1)).n, .sint .i64 (stY Y (n8 (sh Y 22) - 1)).t, .sint .i64 (stY Y (n8 (sh Y 22) - 1)).a, .sint .u64 (stY Y (n8 (sh Y 22) - 1)).r, .sint .u64 (stY Y (n8 (sh Y 22) - 1)).o, .sint .i64 (stY Y (n8 (sh Y 22) - 1)).K, .sint .i64 (stY Y (n8 (sh Y 22) - 1)).J, .sint .i64 (stY Y (n8 (sh Y 22) - 1)).N, .gsl 11 (n1 (sh Y 46)).toNat], .agg [.sint .u8 (stY Y (n8 (sh Y 22) - 1)).d, .sint .i64 (stY Y (n8 (sh Y 22) - 1)).w, .sint .u8 (stY Y (n8 (sh Y 22) - 1)).k, .sint .u64 (stY Y (n8 (sh Y 22) - 1)).n, .sint .i64 (stY Y (n8 (sh Y 22) - 1)).t, .sint .i64 (stY Y (n8 (sh Y 22) - 1)).a, .sint .u64 (stY Y (n8 (sh Y 22) - 1)).r, .sint .u64 (stY Y (n8 (sh Y 22) - 1)).o, .sint .i64 (stY Y (n8 (sh Y 22) - 1)).K, .sint .i64 (stY Y (n8 (sh Y 22) - 1)).J, .sint .i64 (stY Y (n8 (sh Y 22) - 1)).N, .gsl 13 (n1 (sh Y 46)).toNat]]) [11, 13] ([(some (Blk.seq 11 1 (n1 (sh Y 46)).toNat (pk Y)), some (1, (n1 (sh Y 46)).toNat, pk Y)), (some (Blk.seq 13 1 (n1 (sh Y 46)).toNat (pk Y)), some (1, (n1 (sh Y 46)).toNat, pk Y))])) (by kernel_rfl) ?_
      refine hold_stop (fun hd hb => ?_)
      refine same_own hd (look_get hb 0 rfl rfl).2 (look_get hb 1 rfl rfl).2 ?_
      refine ok_sk (.l (.l (.l (.stop [])))) (S := .left (@decide (47 + q ≤ 47 + q ∧ AllBytes (47 + q) (setRow (c.tmod (↑(47 + q) : Int)).toNat 0 [.sint .u8 (IntKind.u8.wrap (↑(BitVec.ofInt 8 (rowI s q P (c.tmod (↑(47 + q) : Int)).toNat) ^^^ BitVec.ofInt 8 b).toNat : Int))] (rowR s q P))) pd) (.left (@decide (47 + q ≤ 47 + q ∧ AllBytes (47 + q) (setRow (c.tmod (↑(47 + q) : Int)).toNat 0 [.sint .u8 (IntKind.u8.wrap (↑(BitVec.ofInt 8 (rowI s q P (c.tmod (↑(47 + q) : Int)).toNat) ^^^ BitVec.ofInt 8 b).toNat : Int))] (rowR s q P))) pd) (.left (decide (bytesOf (47 + q) (setRow (c.tmod (↑(47 + q) : Int)).toNat 0 [.sint .u8 (IntKind.u8.wrap (↑(BitVec.ofInt 8 (rowI s q P (c.tmod (↑(47 + q) : Int)).toNat) ^^^ BitVec.ofInt 8 b).toNat : Int))] (rowR s q P)) = bytesOf (47 + q) (setRow (c.tmod (↑(47 + q) : Int)).toNat 0 [.sint .u8 (IntKind.u8.wrap (↑(BitVec.ofInt 8 (rowI s q P (c.tmod (↑(47 + q) : Int)).toNat) ^^^ BitVec.ofInt 8 b).toNat : Int))] (rowR s q P)))) (.stop (Hd.call 5 []) [] ([]))))) (by kernel_rfl) ?_
      refine hl (bc fun h13 => by exact h13 ⟨Nat.le_refl _, all_S _ _ _ _ (xorI_bd _ _) _⟩) ?_
      refine hl (bc fun h13 => by exact h13 ⟨Nat.le_refl _, all_S _ _ _ _ (xorI_bd _ _) _⟩) ?_
      refine hl (bc fun h13 => by exact h13 rfl) ?_
      refine hold_stop (fun hd hb => ?_)
      refine ok_call0 hd W rfl ?_
      rintro x G ⟨rfl, rfl⟩
      refine ⟨rfl, fun g hg => (by cases hg), ?_⟩
      refine ok_sk (.stop []) (S := .stop (Hd.leaf (.bool true)) [] ([])) (by kernel_rfl) ?_
      refine hold_stop (fun hd hb => ?_)
      exact ok_leaf0 hd rfl ⟨rfl, rfl⟩
     refine ok_sk (.stop []) (S := .stop (Hd.leaf (.bool false)) [] ([])) (by kernel_rfl) ?_
     refine hold_stop (fun hd hb => ?_)
     exact absurd mp my
    refine ok_sk (.stop [3]) (S := .stop (Hd.call 11 [.gsl 3 (47 + q)]) [3] ([(some (Blk.seq 3 1 (47 + q) (setRow (c.tmod (↑(47 + q) : Int)).toNat 0 [.sint .u8 (IntKind.u8.wrap (↑(BitVec.ofInt 8 (rowI s q P (c.tmod (↑(47 + q) : Int)).toNat) ^^^ BitVec.ofInt 8 b).toNat : Int))] (rowR s q P))), some (1, 47 + q, setRow (c.tmod (↑(47 + q) : Int)).toNat 0 [.sint .u8 (IntKind.u8.wrap (↑(BitVec.ofInt 8 (rowI s q P (c.tmod (↑(47 + q) : Int)).toNat) ^^^ BitVec.ofInt 8 b).toNat : Int))] (rowR s q P)))])) (by kernel_rfl) ?_
    refine hold_stop (fun hd hb => ?_)
    refine rget_own Y hd (look_get hb 0 rfl rfl).2 (Nat.le_refl _) (fun i hi => hY i) (by omega) (fun jz => ?_) (fun jz => ?_)
    ·
     refine ok_sk (.stop []) (S := .stop (Hd.leaf (.bool false)) [] ([])) (by kernel_rfl) ?_
     refine hold_stop (fun hd hb => ?_)
     exact absurd mp my
    refine ok_sk (.stop []) (S := .stop (Hd.call 12 [.agg lpZ, .agg lpZ]) [] ([])) (by kernel_rfl) ?_
    refine hold_stop (fun hd hb => ?_)
    refine same_zero hd ?_
    refine ok_sk (.l (.l (.l (.stop [])))) (S := .left (@decide (47 + q ≤ 47 + q ∧ AllBytes (47 + q) (setRow (c.tmod (↑(47 + q) : Int)).toNat 0 [.sint .u8 (IntKind.u8.wrap (↑(BitVec.ofInt 8 (rowI s q P (c.tmod (↑(47 + q) : Int)).toNat) ^^^ BitVec.ofInt 8 b).toNat : Int))] (rowR s q P))) pd) (.left (@decide (47 + q ≤ 47 + q ∧ AllBytes (47 + q) (setRow (c.tmod (↑(47 + q) : Int)).toNat 0 [.sint .u8 (IntKind.u8.wrap (↑(BitVec.ofInt 8 (rowI s q P (c.tmod (↑(47 + q) : Int)).toNat) ^^^ BitVec.ofInt 8 b).toNat : Int))] (rowR s q P))) pd) (.left (decide (bytesOf (47 + q) (setRow (c.tmod (↑(47 + q) : Int)).toNat 0 [.sint .u8 (IntKind.u8.wrap (↑(BitVec.ofInt 8 (rowI s q P (c.tmod (↑(47 + q) : Int)).toNat) ^^^ BitVec.ofInt 8 b).toNat : Int))] (rowR s q P)) = bytesOf (47 + q) (setRow (c.tmod (↑(47 + q) : Int)).toNat 0 [.sint .u8 (IntKind.u8.wrap (↑(BitVec.ofInt 8 (rowI s q P (c.tmod (↑(47 + q) : Int)).toNat) ^^^ BitVec.ofInt 8 b).toNat : Int))] (rowR s q P)))) (.stop (Hd.call 5 []) [] ([]))))) (by kernel_rfl) ?_
    refine hl (bc fun h13 => by exact h13 ⟨Nat.le_refl _, all_S _ _ _ _ (xorI_bd _ _) _⟩) ?_
    refine hl (bc fun h13 => by exact h13 ⟨Nat.le_refl _, all_S _ _ _ _ (xorI_bd _ _) _⟩) ?_
    refine hl (bc fun h13 => by exact h13 rfl) ?_
    refine hold_stop (fun hd hb => ?_)
    refine ok_call0 hd W rfl ?_
    rintro x G ⟨rfl, rfl⟩
    refine ⟨rfl, fun g hg => (by cases hg), ?_⟩
    refine ok_sk (.stop []) (S := .stop (Hd.leaf (.bool true)) [] ([])) (by kernel_rfl) ?_
    refine hold_stop (fun hd hb => ?_)
    exact ok_leaf0 hd rfl ⟨rfl, rfl⟩
   refine hold_stop (fun hd hb => ?_)
   exact absurd mp my
  refine ok_sk (.l (.l (.l (.l (.l (.l (.l (.l (.l (.r (.l (.l (.l (.l (.l (.stop [7])))))))))))))))) (S := .left (@decide (47 + q ≤ 47 + q ∧ AllBytes (47 + q) (rowR s q P)) pd) (.left (decide (bytesOf (47 + q) (rowR s q P) = bytesOf (47 + q) (rowR s q P))) (.left (decide (47 + q = 47 + q)) (.left (@decide (47 + q ≤ 47 + q ∧ AllBytes (47 + q) (rowR s q P)) pd) (.left (decide (bytesOf (47 + q) (rowR s q P) = bytesOf (47 + q) (rowR s q P))) (.left (decide (47 + q ≤ 47 + q)) (.left (@decide (47 + q < 65536 ∧ RowsOK 1 (47 + q) (rowR s q P)) pd) (.left (decide (0 < (↑(47 + q) : Int))) (.left (decide ((-9223372036854775808 : Int) ≤ c ∧ c ≤ 9223372036854775807)) (.right (decide ((↑(47 + q) : Int) = 0)) (.left (decide (0 ≤ c.tmod (↑(47 + q) : Int) ∧ (c.tmod (↑(47 + q) : Int)).toNat < 47 + q)) (.left (decide ((c.tmod (↑(47 + q) : Int)).toNat < 47 + q)) (.left (decide (0 ≤ c.tmod (↑(47 + q) : Int) ∧ (c.tmod (↑(47 + q) : Int)).toNat < 47 + q)) (.left (decide ((c.tmod (↑(47 + q) : Int)).toNat < 47 + q)) (.left (@decide (n < 65536 ∧ RowsOK 1 n (by8 y)) pd) (.stop (Hd.call 10 [.gsl 7 n]) [7] ([(some (Blk.seq 7 1 n (by8 y)), some (1, n, by8 y))]))))))))))))))))) (by kernel_rfl) ?_
  refine hl (bc fun h6 => by exact h6 ⟨Nat.le_refl _, all_rowR _ _ _ _⟩) ?_
  refine hl (bc fun h6 => by exact h6 rfl) ?_
  refine hl (bc fun h6 => by omega) ?_
  refine hl (bc fun h6 => by exact h6 ⟨Nat.le_refl _, all_rowR _ _ _ _⟩) ?_
  refine hl (bc fun h6 => by exact h6 rfl) ?_
  refine hl (bc fun h6 => by omega) ?_
  refine hl (bc fun h6 => by exact h6 ⟨by omega, fun i hi => ⟨rfl, rfl⟩⟩) ?_
  refine hl (bc fun h6 => by omega) ?_
  refine hl (bc fun h6 => by omega) ?_
  refine hzr (fun h6 => by omega) ?_
  refine hl (bc fun h6 => by omega) ?_
  refine hl (bc fun h6 => by omega) ?_
  refine hl (bc fun h6 => by omega) ?_
  refine hl (bc fun h6 => by omega) ?_
  refine hl (bc fun h6 => by exact h6 ⟨by omega, fun i hi => ⟨rfl, rfl⟩⟩) ?_
  refine hold_stop (fun hd hb => ?_)
  refine get_own y hd (look_get hb 0 rfl rfl).2 (Nat.le_refl _) (fun i hi => ⟨rfl, rfl⟩) (by omega) (fun iy => ?_) (fun iy => ?_)
  ·
   refine ok_sk (.stop []) (S := .stop (Hd.call 11 [.data 1 n (by8 y)]) [] ([])) (by kernel_rfl) ?_
   refine hold_stop (fun hd hb => ?_)
   refine ok_call0 hd (rgetT n y (by omega)) rfl ?_
   rintro x G (⟨iz, rfl, rfl⟩ | ⟨iz, rfl, rfl⟩) <;> first | refine ⟨rfl, fun g hg => (by rcases List.mem_singleton.1 hg with rfl; exact fun _ _ => rfl), ?_⟩ | refine ⟨rfl, fun g hg => (by cases hg), ?_⟩
   ·
    refine ok_sk (.stop [8, 10]) (S := .stop (Hd.call 12 [.agg [.sint .u8 (stY y (n8 (sh y 22) - 1)).d, .sint .i64 (stY y (n8 (sh y 22) - 1)).w, .sint .u8 (stY y (n8 (sh y 22) - 1)).k, .sint .u64 (stY y (n8 (sh y 22) - 1)).n, .sint .i64 (stY y (n8 (sh y 22) - 1)).t, .sint .i64 (stY y (n8 (sh y 22) - 1)).a, .sint .u64 (stY y (n8 (sh y 22) - 1)).r, .sint .u64 (stY y (n8 (sh y 22) - 1)).o, .sint .i64 (stY y (n8 (sh y 22) - 1)).K, .sint .i64 (stY y (n8 (sh y 22) - 1)).J, .sint .i64 (stY y (n8 (sh y 22) - 1)).N, .gsl 8 (n1 (sh y 46)).toNat], .agg [.sint .u8 (stY y (n8 (sh y 22) - 1)).d, .sint .i64 (stY y (n8 (sh y 22) - 1)).w, .sint .u8 (stY y (n8 (sh y 22) - 1)).k, .sint .u64 (stY y (n8 (sh y 22) - 1)).n, .sint .i64 (stY y (n8 (sh y 22) - 1)).t, .sint .i64 (stY y (n8 (sh y 22) - 1)).a, .sint .u64 (stY y (n8 (sh y 22) - 1)).r, .sint .u64 (stY y (n8 (sh y 22) - 1)).o, .sint .i64 (stY y (n8 (sh y 22) - 1)).K, .sint .i64 (stY y (n8 (sh y 22) - 1)).J, .sint .i64 (stY y (n8 (sh y 22) - 1)).N, .gsl 10 (n1 (sh y 46)).toNat]]) [8, 10] ([(some (Blk.seq 8 1 (n1 (sh y 46)).toNat (pk y)), some (1, (n1 (sh y 46)).toNat, pk y)), (some (Blk.seq 10 1 (n1 (sh y 46)).toNat (pk y)), some (1, (n1 (sh y 46)).toNat, pk y))])) (by kernel_rfl) ?_
    refine hold_stop (fun hd hb => ?_)
    refine same_own hd (look_get hb 0 rfl rfl).2 (look_get hb 1 rfl rfl).2 ?_
    refine ok_sk (.l (.l (.l (.l (.l (.stop [13])))))) (S := .left (@decide (n ≤ n ∧ AllBytes n (by8 y)) pd) (.left (@decide (AllBytes n (by8 y)) pd) (.left (decide (bytesOf n (by8 y) = bytesOf n (by8 y))) (.left (decide (47 + q ≤ 47 + q)) (.left (@decide (47 + q < 65536 ∧ RowsOK 1 (47 + q) (setRow (c.tmod (↑(47 + q) : Int)).toNat 0 [.sint .u8 (IntKind.u8.wrap (↑(BitVec.ofInt 8 (rowI s q P (c.tmod (↑(47 + q) : Int)).toNat) ^^^ BitVec.ofInt 8 b).toNat : Int))] (rowR s q P))) pd) (.stop (Hd.call 10 [.gsl 13 (47 + q)]) [13] ([(some (Blk.seq 13 1 (47 + q) (setRow (c.tmod (↑(47 + q) : Int)).toNat 0 [.sint .u8 (IntKind.u8.wrap (↑(BitVec.ofInt 8 (rowI s q P (c.tmod (↑(47 + q) : Int)).toNat) ^^^ BitVec.ofInt 8 b).toNat : Int))] (rowR s q P))), some (1, 47 + q, setRow (c.tmod (↑(47 + q) : Int)).toNat 0 [.sint .u8 (IntKind.u8.wrap (↑(BitVec.ofInt 8 (rowI s q P (c.tmod (↑(47 + q) : Int)).toNat) ^^^ BitVec.ofInt 8 b).toNat : Int))] (rowR s q P)))]))))))) (by kernel_rfl) ?_
    refine hl (bc fun h9 => by exact h9 ⟨Nat.le_refl _, all_by8 _ _⟩) ?_
    refine hl (bc fun h9 => by exact h9 (all_by8 _ _)) ?_
    refine hl (bc fun h9 => by exact h9 rfl) ?_
    refine hl (bc fun h9 => by omega) ?_
    refine hl (bc fun h9 => by exact h9 ⟨by omega, rows_S _ _ _ _ _ _⟩) ?_
    refine hold_stop (fun hd hb => ?_)
    refine get_badY (xorI_bd _ _) hd (look_get hb 0 rfl rfl).2 (Nat.le_refl _) (by omega) fun Y hY => ⟨fun jy => ?_, fun jy => ?_⟩
    ·
     refine ok_sk (.stop [4]) (S := .stop (Hd.call 11 [.gsl 4 (47 + q)]) [4] ([(some (Blk.seq 4 1 (47 + q) (setRow (c.tmod (↑(47 + q) : Int)).toNat 0 [.sint .u8 (IntKind.u8.wrap (↑(BitVec.ofInt 8 (rowI s q P (c.tmod (↑(47 + q) : Int)).toNat) ^^^ BitVec.ofInt 8 b).toNat : Int))] (rowR s q P))), some (1, 47 + q, setRow (c.tmod (↑(47 + q) : Int)).toNat 0 [.sint .u8 (IntKind.u8.wrap (↑(BitVec.ofInt 8 (rowI s q P (c.tmod (↑(47 + q) : Int)).toNat) ^^^ BitVec.ofInt 8 b).toNat : Int))] (rowR s q P)))])) (by kernel_rfl) ?_
     refine hold_stop (fun hd hb => ?_)
     refine rget_own Y hd (look_get hb 0 rfl rfl).2 (Nat.le_refl _) (fun i hi => hY i) (by omega) (fun jz => ?_) (fun jz => ?_)
     ·
      refine ok_sk (.stop [14, 16]) (S := .stop (Hd.call 12 [.agg [.sint .u8 (stY Y (n8 (sh Y 22) - 1)).d, .sint .i64 (stY Y (n8 (sh Y 22) - 1)).w, .sint .u8 (stY Y (n8 (sh Y 22) - 1)).k, .sint .u64 (stY Y (n8 (sh Y 22) - 1)).n, .sint .i64 (stY Y (n8 (sh Y 22) - 1)).t, .sint .i64 (stY Y (n8 (sh Y 22) - 1)).a, .sint .u64 (stY Y (n8 (sh Y 22) - 1)).r, .sint .u64 (stY Y (n8 (sh Y 22) - 1)).o, .sint .i64 (stY Y (n8 (sh Y 22) - 1)).K, .sint .i64 (stY Y (n8 (sh Y 22) - 1)).J, .sint .i64 (stY Y (n8 (sh Y 22) - 1)).N, .gsl 14 (n1 (sh Y 46)).toNat], .agg [.sint .u8 (stY Y (n8 (sh Y 22) - 1)).d, .sint .i64 (stY Y (n8 (sh Y 22) - 1)).w, .sint .u8 (stY Y (n8 (sh Y 22) - 1)).k, .sint .u64 (stY Y (n8 (sh Y 22) - 1)).n, .sint .i64 (stY Y (n8 (sh Y 22) - 1)).t, .sint .i64 (stY Y (n8 (sh Y 22) - 1)).a, .sint .u64 (stY Y (n8 (sh Y 22) - 1)).r, .sint .u64 (stY Y (n8 (sh Y 22) - 1)).o, .sint .i64 (stY Y (n8 (sh Y 22) - 1)).K, .sint .i64 (stY Y (n8 (sh Y 22) - 1)).J, .sint .i64 (stY Y (n8 (sh Y 22) - 1)).N, .gsl 16 (n1 (sh Y 46)).toNat]]) [14, 16] ([(some (Blk.seq 14 1 (n1 (sh Y 46)).toNat (pk Y)), some (1, (n1 (sh Y 46)).toNat, pk Y)), (some (Blk.seq 16 1 (n1 (sh Y 46)).toNat (pk Y)), some (1, (n1 (sh Y 46)).toNat, pk Y))])) (by kernel_rfl) ?_
      refine hold_stop (fun hd hb => ?_)
      refine same_own hd (look_get hb 0 rfl rfl).2 (look_get hb 1 rfl rfl).2 ?_
      refine ok_sk (.l (.l (.l (.stop [])))) (S := .left (@decide (47 + q ≤ 47 + q ∧ AllBytes (47 + q) (setRow (c.tmod (↑(47 + q) : Int)).toNat 0 [.sint .u8 (IntKind.u8.wrap (↑(BitVec.ofInt 8 (rowI s q P (c.tmod (↑(47 + q) : Int)).toNat) ^^^ BitVec.ofInt 8 b).toNat : Int))] (rowR s q P))) pd) (.left (@decide (47 + q ≤ 47 + q ∧ AllBytes (47 + q) (setRow (c.tmod (↑(47 + q) : Int)).toNat 0 [.sint .u8 (IntKind.u8.wrap (↑(BitVec.ofInt 8 (rowI s q P (c.tmod (↑(47 + q) : Int)).toNat) ^^^ BitVec.ofInt 8 b).toNat : Int))] (rowR s q P))) pd) (.left (decide (bytesOf (47 + q) (setRow (c.tmod (↑(47 + q) : Int)).toNat 0 [.sint .u8 (IntKind.u8.wrap (↑(BitVec.ofInt 8 (rowI s q P (c.tmod (↑(47 + q) : Int)).toNat) ^^^ BitVec.ofInt 8 b).toNat : Int))] (rowR s q P)) = bytesOf (47 + q) (setRow (c.tmod (↑(47 + q) : Int)).toNat 0 [.sint .u8 (IntKind.u8.wrap (↑(BitVec.ofInt 8 (rowI s q P (c.tmod (↑(47 + q) : Int)).toNat) ^^^ BitVec.ofInt 8 b).toNat : Int))] (rowR s q P)))) (.stop (Hd.call 5 []) [] ([]))))) (by kernel_rfl) ?_
      refine hl (bc fun h12 => by exact h12 ⟨Nat.le_refl _, all_S _ _ _ _ (xorI_bd _ _) _⟩) ?_
      refine hl (bc fun h12 => by exact h12 ⟨Nat.le_refl _, all_S _ _ _ _ (xorI_bd _ _) _⟩) ?_
      refine hl (bc fun h12 => by exact h12 rfl) ?_
      refine hold_stop (fun hd hb => ?_)
      refine ok_call0 hd W rfl ?_
      rintro x G ⟨rfl, rfl⟩
      refine ⟨rfl, fun g hg => (by cases hg), ?_⟩
      refine ok_sk (.stop []) (S := .stop (Hd.leaf (.bool true)) [] ([])) (by kernel_rfl) ?_
      refine hold_stop (fun hd hb => ?_)
      exact ok_leaf0 hd rfl ⟨rfl, rfl⟩
     refine ok_sk (.stop []) (S := .stop (Hd.leaf (.bool false)) [] ([])) (by kernel_rfl) ?_
     refine hold_stop (fun hd hb => ?_)
     exact absurd mp my
    refine ok_sk (.stop [4]) (S := .stop (Hd.call 11 [.gsl 4 (47 + q)]) [4] ([(some (Blk.seq 4 1 (47 + q) (setRow (c.tmod (↑(47 + q) : Int)).toNat 0 [.sint .u8 (IntKind.u8.wrap (↑(BitVec.ofInt 8 (rowI s q P (c.tmod (↑(47 + q) : Int)).toNat) ^^^ BitVec.ofInt 8 b).toNat : Int))] (rowR s q P))), some (1, 47 + q, setRow (c.tmod (↑(47 + q) : Int)).toNat 0 [.sint .u8 (IntKind.u8.wrap (↑(BitVec.ofInt 8 (rowI s q P (c.tmod (↑(47 + q) : Int)).toNat) ^^^ BitVec.ofInt 8 b).toNat : Int))] (rowR s q P)))])) (by kernel_rfl) ?_
    refine hold_stop (fun hd hb => ?_)
    refine rget_own Y hd (look_get hb 0 rfl rfl).2 (Nat.le_refl _) (fun i hi => hY i) (by omega) (fun jz => ?_) (fun jz => ?_)
    ·
     refine ok_sk (.stop []) (S := .stop (Hd.leaf (.bool false)) [] ([])) (by kernel_rfl) ?_
     refine hold_stop (fun hd hb => ?_)
     exact absurd mp my
    refine ok_sk (.stop []) (S := .stop (Hd.call 12 [.agg lpZ, .agg lpZ]) [] ([])) (by kernel_rfl) ?_
    refine hold_stop (fun hd hb => ?_)
    refine same_zero hd ?_
    refine ok_sk (.l (.l (.l (.stop [])))) (S := .left (@decide (47 + q ≤ 47 + q ∧ AllBytes (47 + q) (setRow (c.tmod (↑(47 + q) : Int)).toNat 0 [.sint .u8 (IntKind.u8.wrap (↑(BitVec.ofInt 8 (rowI s q P (c.tmod (↑(47 + q) : Int)).toNat) ^^^ BitVec.ofInt 8 b).toNat : Int))] (rowR s q P))) pd) (.left (@decide (47 + q ≤ 47 + q ∧ AllBytes (47 + q) (setRow (c.tmod (↑(47 + q) : Int)).toNat 0 [.sint .u8 (IntKind.u8.wrap (↑(BitVec.ofInt 8 (rowI s q P (c.tmod (↑(47 + q) : Int)).toNat) ^^^ BitVec.ofInt 8 b).toNat : Int))] (rowR s q P))) pd) (.left (decide (bytesOf (47 + q) (setRow (c.tmod (↑(47 + q) : Int)).toNat 0 [.sint .u8 (IntKind.u8.wrap (↑(BitVec.ofInt 8 (rowI s q P (c.tmod (↑(47 + q) : Int)).toNat) ^^^ BitVec.ofInt 8 b).toNat : Int))] (rowR s q P)) = bytesOf (47 + q) (setRow (c.tmod (↑(47 + q) : Int)).toNat 0 [.sint .u8 (IntKind.u8.wrap (↑(BitVec.ofInt 8 (rowI s q P (c.tmod (↑(47 + q) : Int)).toNat) ^^^ BitVec.ofInt 8 b).toNat : Int))] (rowR s q P)))) (.stop (Hd.call 5 []) [] ([]))))) (by kernel_rfl) ?_
    refine hl (bc fun h12 => by exact h12 ⟨Nat.le_refl _, all_S _ _ _ _ (xorI_bd _ _) _⟩) ?_
    refine hl (bc fun h12 => by exact h12 ⟨Nat.le_refl _, all_S _ _ _ _ (xorI_bd _ _) _⟩) ?_
    refine hl (bc fun h12 => by exact h12 rfl) ?_
    refine hold_stop (fun hd hb => ?_)
    refine ok_call0 hd W rfl ?_
    rintro x G ⟨rfl, rfl⟩
    refine ⟨rfl, fun g hg => (by cases hg), ?_⟩
    refine ok_sk (.stop []) (S := .stop (Hd.leaf (.bool true)) [] ([])) (by kernel_rfl) ?_
    refine hold_stop (fun hd hb => ?_)
    exact ok_leaf0 hd rfl ⟨rfl, rfl⟩
   refine ok_sk (.stop []) (S := .stop (Hd.leaf (.bool false)) [] ([])) (by kernel_rfl) ?_
   refine hold_stop (fun hd hb => ?_)
   exact absurd mp my
  refine ok_sk (.stop []) (S := .stop (Hd.call 11 [.data 1 n (by8 y)]) [] ([])) (by kernel_rfl) ?_
  refine hold_stop (fun hd hb => ?_)
  refine ok_call0 hd (rgetT n y (by omega)) rfl ?_
  rintro x G (⟨iz, rfl, rfl⟩ | ⟨iz, rfl, rfl⟩) <;> first | refine ⟨rfl, fun g hg => (by rcases List.mem_singleton.1 hg with rfl; exact fun _ _ => rfl), ?_⟩ | refine ⟨rfl, fun g hg => (by cases hg), ?_⟩
  ·
   refine ok_sk (.stop []) (S := .stop (Hd.leaf (.bool false)) [] ([])) (by kernel_rfl) ?_
   refine hold_stop (fun hd hb => ?_)
   exact absurd mp my
  refine ok_sk (.stop []) (S := .stop (Hd.call 12 [.agg lpZ, .agg lpZ]) [] ([])) (by kernel_rfl) ?_
  refine hold_stop (fun hd hb => ?_)
  refine same_zero hd ?_
  refine ok_sk (.l (.l (.l (.l (.l (.stop [11])))))) (S := .left (@decide (n ≤ n ∧ AllBytes n (by8 y)) pd) (.left (@decide (AllBytes n (by8 y)) pd) (.left (decide (bytesOf n (by8 y) = bytesOf n (by8 y))) (.left (decide (47 + q ≤ 47 + q)) (.left (@decide (47 + q < 65536 ∧ RowsOK 1 (47 + q) (setRow (c.tmod (↑(47 + q) : Int)).toNat 0 [.sint .u8 (IntKind.u8.wrap (↑(BitVec.ofInt 8 (rowI s q P (c.tmod (↑(47 + q) : Int)).toNat) ^^^ BitVec.ofInt 8 b).toNat : Int))] (rowR s q P))) pd) (.stop (Hd.call 10 [.gsl 11 (47 + q)]) [11] ([(some (Blk.seq 11 1 (47 + q) (setRow (c.tmod (↑(47 + q) : Int)).toNat 0 [.sint .u8 (IntKind.u8.wrap (↑(BitVec.ofInt 8 (rowI s q P (c.tmod (↑(47 + q) : Int)).toNat) ^^^ BitVec.ofInt 8 b).toNat : Int))] (rowR s q P))), some (1, 47 + q, setRow (c.tmod (↑(47 + q) : Int)).toNat 0 [.sint .u8 (IntKind.u8.wrap (↑(BitVec.ofInt 8 (rowI s q P (c.tmod (↑(47 + q) : Int)).toNat) ^^^ BitVec.ofInt 8 b).toNat : Int))] (rowR s q P)))]))))))) (by kernel_rfl) ?_
  refine hl (bc fun h9 => by exact h9 ⟨Nat.le_refl _, all_by8 _ _⟩) ?_
  refine hl (bc fun h9 => by exact h9 (all_by8 _ _)) ?_
  refine hl (bc fun h9 => by exact h9 rfl) ?_
  refine hl (bc fun h9 => by omega) ?_
  refine hl (bc fun h9 => by exact h9 ⟨by omega, rows_S _ _ _ _ _ _⟩) ?_
  refine hold_stop (fun hd hb => ?_)
  refine get_badY (xorI_bd _ _) hd (look_get hb 0 rfl rfl).2 (Nat.le_refl _) (by omega) fun Y hY => ⟨fun jy => ?_, fun jy => ?_⟩
  ·
   refine ok_sk (.stop [4]) (S := .stop (Hd.call 11 [.gsl 4 (47 + q)]) [4] ([(some (Blk.seq 4 1 (47 + q) (setRow (c.tmod (↑(47 + q) : Int)).toNat 0 [.sint .u8 (IntKind.u8.wrap (↑(BitVec.ofInt 8 (rowI s q P (c.tmod (↑(47 + q) : Int)).toNat) ^^^ BitVec.ofInt 8 b).toNat : Int))] (rowR s q P))), some (1, 47 + q, setRow (c.tmod (↑(47 + q) : Int)).toNat 0 [.sint .u8 (IntKind.u8.wrap (↑(BitVec.ofInt 8 (rowI s q P (c.tmod (↑(47 + q) : Int)).toNat) ^^^ BitVec.ofInt 8 b).toNat : Int))] (rowR s q P)))])) (by kernel_rfl) ?_
   refine hold_stop (fun hd hb => ?_)
   refine rget_own Y hd (look_get hb 0 rfl rfl).2 (Nat.le_refl _) (fun i hi => hY i) (by omega) (fun jz => ?_) (fun jz => ?_)
   ·
    refine ok_sk (.stop [12, 14]) (S := .stop (Hd.call 12 [.agg [.sint .u8 (stY Y (n8 (sh Y 22) - 1)).d, .sint .i64 (stY Y (n8 (sh Y 22) - 1)).w, .sint .u8 (stY Y (n8 (sh Y 22) - 1)).k, .sint .u64 (stY Y (n8 (sh Y 22) - 1)).n, .sint .i64 (stY Y (n8 (sh Y 22) - 1)).t, .sint .i64 (stY Y (n8 (sh Y 22) - 1)).a, .sint .u64 (stY Y (n8 (sh Y 22) - 1)).r, .sint .u64 (stY Y (n8 (sh Y 22) - 1)).o, .sint .i64 (stY Y (n8 (sh Y 22) - 1)).K, .sint .i64 (stY Y (n8 (sh Y 22) - 1)).J, .sint .i64 (stY Y (n8 (sh Y 22) - 1)).N, .gsl 12 (n1 (sh Y 46)).toNat], .agg [.sint .u8 (stY Y (n8 (sh Y 22) - 1)).d, .sint .i64 (stY Y (n8 (sh Y 22) - 1)).w, .sint .u8 (stY Y (n8 (sh Y 22) - 1)).k, .sint .u64 (stY Y (n8 (sh Y 22) - 1)).n, .sint .i64 (stY Y (n8 (sh Y 22) - 1)).t, .sint .i64 (stY Y (n8 (sh Y 22) - 1)).a, .sint .u64 (stY Y (n8 (sh Y 22) - 1)).r, .sint .u64 (stY Y (n8 (sh Y 22) - 1)).o, .sint .i64 (stY Y (n8 (sh Y 22) - 1)).K, .sint .i64 (stY Y (n8 (sh Y 22) - 1)).J, .sint .i64 (stY Y (n8 (sh Y 22) - 1)).N, .gsl 14 (n1 (sh Y 46)).toNat]]) [12, 14] ([(some (Blk.seq 12 1 (n1 (sh Y 46)).toNat (pk Y)), some (1, (n1 (sh Y 46)).toNat, pk Y)), (some (Blk.seq 14 1 (n1 (sh Y 46)).toNat (pk Y)), some (1, (n1 (sh Y 46)).toNat, pk Y))])) (by kernel_rfl) ?_
    refine hold_stop (fun hd hb => ?_)
    refine same_own hd (look_get hb 0 rfl rfl).2 (look_get hb 1 rfl rfl).2 ?_
    refine ok_sk (.l (.l (.l (.stop [])))) (S := .left (@decide (47 + q ≤ 47 + q ∧ AllBytes (47 + q) (setRow (c.tmod (↑(47 + q) : Int)).toNat 0 [.sint .u8 (IntKind.u8.wrap (↑(BitVec.ofInt 8 (rowI s q P (c.tmod (↑(47 + q) : Int)).toNat) ^^^ BitVec.ofInt 8 b).toNat : Int))] (rowR s q P))) pd) (.left (@decide (47 + q ≤ 47 + q ∧ AllBytes (47 + q) (setRow (c.tmod (↑(47 + q) : Int)).toNat 0 [.sint .u8 (IntKind.u8.wrap (↑(BitVec.ofInt 8 (rowI s q P (c.tmod (↑(47 + q) : Int)).toNat) ^^^ BitVec.ofInt 8 b).toNat : Int))] (rowR s q P))) pd) (.left (decide (bytesOf (47 + q) (setRow (c.tmod (↑(47 + q) : Int)).toNat 0 [.sint .u8 (IntKind.u8.wrap (↑(BitVec.ofInt 8 (rowI s q P (c.tmod (↑(47 + q) : Int)).toNat) ^^^ BitVec.ofInt 8 b).toNat : Int))] (rowR s q P)) = bytesOf (47 + q) (setRow (c.tmod (↑(47 + q) : Int)).toNat 0 [.sint .u8 (IntKind.u8.wrap (↑(BitVec.ofInt 8 (rowI s q P (c.tmod (↑(47 + q) : Int)).toNat) ^^^ BitVec.ofInt 8 b).toNat : Int))] (rowR s q P)))) (.stop (Hd.call 5 []) [] ([]))))) (by kernel_rfl) ?_
    refine hl (bc fun h12 => by exact h12 ⟨Nat.le_refl _, all_S _ _ _ _ (xorI_bd _ _) _⟩) ?_
    refine hl (bc fun h12 => by exact h12 ⟨Nat.le_refl _, all_S _ _ _ _ (xorI_bd _ _) _⟩) ?_
    refine hl (bc fun h12 => by exact h12 rfl) ?_
    refine hold_stop (fun hd hb => ?_)
    refine ok_call0 hd W rfl ?_
    rintro x G ⟨rfl, rfl⟩
    refine ⟨rfl, fun g hg => (by cases hg), ?_⟩
    refine ok_sk (.stop []) (S := .stop (Hd.leaf (.bool true)) [] ([])) (by kernel_rfl) ?_
    refine hold_stop (fun hd hb => ?_)
    exact ok_leaf0 hd rfl ⟨rfl, rfl⟩
   refine ok_sk (.stop []) (S := .stop (Hd.leaf (.bool false)) [] ([])) (by kernel_rfl) ?_
   refine hold_stop (fun hd hb => ?_)
   exact absurd mp my
  refine ok_sk (.stop [4]) (S := .stop (Hd.call 11 [.gsl 4 (47 + q)]) [4] ([(some (Blk.seq 4 1 (47 + q) (setRow (c.tmod (↑(47 + q) : Int)).toNat 0 [.sint .u8 (IntKind.u8.wrap (↑(BitVec.ofInt 8 (rowI s q P (c.tmod (↑(47 + q) : Int)).toNat) ^^^ BitVec.ofInt 8 b).toNat : Int))] (rowR s q P))), some (1, 47 + q, setRow (c.tmod (↑(47 + q) : Int)).toNat 0 [.sint .u8 (IntKind.u8.wrap (↑(BitVec.ofInt 8 (rowI s q P (c.tmod (↑(47 + q) : Int)).toNat) ^^^ BitVec.ofInt 8 b).toNat : Int))] (rowR s q P)))])) (by kernel_rfl) ?_
  refine hold_stop (fun hd hb => ?_)
  refine rget_own Y hd (look_get hb 0 rfl rfl).2 (Nat.le_refl _) (fun i hi => hY i) (by omega) (fun jz => ?_) (fun jz => ?_)
  ·
   refine ok_sk (.stop []) (S := .stop (Hd.leaf (.bool false)) [] ([])) (by kernel_rfl) ?_
   refine hold_stop (fun hd hb => ?_)
   exact absurd mp my
  refine ok_sk (.stop []) (S := .stop (Hd.call 12 [.agg lpZ, .agg lpZ]) [] ([])) (by kernel_rfl) ?_
  refine hold_stop (fun hd hb => ?_)
  refine same_zero hd ?_
  refine ok_sk (.l (.l (.l (.stop [])))) (S := .left (@decide (47 + q ≤ 47 + q ∧ AllBytes (47 + q) (setRow (c.tmod (↑(47 + q) : Int)).toNat 0 [.sint .u8 (IntKind.u8.wrap (↑(BitVec.ofInt 8 (rowI s q P (c.tmod (↑(47 + q) : Int)).toNat) ^^^ BitVec.ofInt 8 b).toNat : Int))] (rowR s q P))) pd) (.left (@decide (47 + q ≤ 47 + q ∧ AllBytes (47 + q) (setRow (c.tmod (↑(47 + q) : Int)).toNat 0 [.sint .u8 (IntKind.u8.wrap (↑(BitVec.ofInt 8 (rowI s q P (c.tmod (↑(47 + q) : Int)).toNat) ^^^ BitVec.ofInt 8 b).toNat : Int))] (rowR s q P))) pd) (.left (decide (bytesOf (47 + q) (setRow (c.tmod (↑(47 + q) : Int)).toNat 0 [.sint .u8 (IntKind.u8.wrap (↑(BitVec.ofInt 8 (rowI s q P (c.tmod (↑(47 + q) : Int)).toNat) ^^^ BitVec.ofInt 8 b).toNat : Int))] (rowR s q P)) = bytesOf (47 + q) (setRow (c.tmod (↑(47 + q) : Int)).toNat 0 [.sint .u8 (IntKind.u8.wrap (↑(BitVec.ofInt 8 (rowI s q P (c.tmod (↑(47 + q) : Int)).toNat) ^^^ BitVec.ofInt 8 b).toNat : Int))] (rowR s q P)))) (.stop (Hd.call 5 []) [] ([]))))) (by kernel_rfl) ?_
  refine hl (bc fun h12 => by exact h12 ⟨Nat.le_refl _, all_S _ _ _ _ (xorI_bd _ _) _⟩) ?_
  refine hl (bc fun h12 => by exact h12 ⟨Nat.le_refl _, all_S _ _ _ _ (xorI_bd _ _) _⟩) ?_
  refine hl (bc fun h12 => by exact h12 rfl) ?_
  refine hold_stop (fun hd hb => ?_)
  refine ok_call0 hd W rfl ?_
  rintro x G ⟨rfl, rfl⟩
  refine ⟨rfl, fun g hg => (by cases hg), ?_⟩
  refine ok_sk (.stop []) (S := .stop (Hd.leaf (.bool true)) [] ([])) (by kernel_rfl) ?_
  refine hold_stop (fun hd hb => ?_)
  exact ok_leaf0 hd rfl ⟨rfl, rfl⟩
end Go.Proofs.YtkebdfbdneggkaaGreat
