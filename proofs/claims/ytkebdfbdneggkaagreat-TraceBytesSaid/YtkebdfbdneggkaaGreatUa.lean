import Derived.Test.YtkebdfbdneggkaaGreatPrl
import Derived.Test.YtkebdfbdneggkaaGreatTrc
set_option linter.unusedVariables false
set_option linter.unusedSimpArgs false
namespace Go.Proofs.YtkebdfbdneggkaaGreat
open Go Go.RowKit Sv
set_option linter.unusedVariables false
set_option maxRecDepth 100000
set_option maxHeartbeats 0
/-- a step, its picks aside. -/
structure StI where
  d : Int
  w : Int
  k : Int
  n : Int
  t : Int
  a : Int
  r : Int
  o : Int
  K : Int
  J : Int
  N : Int
def StI.row (s : StI) (l : AV) : List AV := [.sint .u8 s.d, .sint .i64 s.w, .sint .u8 s.k, .sint .u64 s.n, .sint .i64 s.t, .sint .i64 s.a, .sint .u64 s.r, .sint .u64 s.o, .sint .i64 s.K, .sint .i64 s.J, .sint .i64 s.N, l]
def ints (q : Nat) (P : Nat → Int) : AV := .data 1 q fun i => [.sint .i64 (P i)]
def upS (M : Int) (n : Nat) (P : Nat → Int) (q : Nat) : List AV := [.sint .i64 M, .top, .top, .top, .bool false, .top, .top, .data 1 n fun i => [.sint .i64 (P i)], .sint .i64 (n : Int), .sint .i64 (q : Int), .top, .top, .top, .top, .top, .top, .top, .top, .top, .top, .top]
theorem rup (M : Int) (n : Nat) (P : Nat → Int) (hn : n ≤ 1099511627776) : Runs Tryz.prog 29 [.sint .i64 M, ints n P] fun x G => G = [] ∧ ((x = .bool true ∧ ∀ i, i < n → -1 ≤ P i ∧ P i ≤ M) ∨ (x = .bool false ∧ ¬ ∀ i, i < n → -1 ≤ P i ∧ P i ≤ M)) := by
  refine runs_treeF plain mixed (fun _ => false) (fun _ => true) 60 ?_
  refine ok_sk (.stop []) (S := .stop (Hd.loop 55 [.sint .i64 M, .data 1 n fun (i : Nat) => [.sint .i64 (P i)], .tuple [], .tuple [], .bool false, .tuple [], .tuple [], .data 1 n fun (i : Nat) => [.sint .i64 (P i)], .sint .i64 (↑n : Int), .int .i64 (0 : Int), .tuple [], .tuple [], .tuple [], .tuple [], .tuple [], .tuple [], .tuple [], .tuple [], .tuple [], .tuple [], .tuple []]) [] ([])) (by kernel_rfl) ?_
  refine hold_stop (fun hd hb => ?_)
  refine ok_loop hd (X := {q : Nat // q ≤ n ∧ ∀ i, i < q → -1 ≤ P i ∧ P i ≤ M}) (fun q => upS M n P q.1) (fun _ => []) (fun q => n - q.1) [] ⟨0, by omega, fun j hj => absurd hj (Nat.not_lt_zero j)⟩ ⟨by simp [upS, fitsA, fitA, nf], trivial, .nil⟩ ?_
  rintro ⟨q, q1, qm⟩
  refine ok_sk (.both (.l (.both (.stop []) (.both (.stop []) (.l (.stop []))))) (.stop [])) (S := .fork (decide ((↑q : Int) < (↑n : Int))) (.left (decide (0 ≤ (↑q : Int) ∧ (↑q : Int).toNat < n)) (.fork (decide (P (↑q : Int).toNat < (-1 : Int))) (.stop (Hd.leaf (.bool false)) [] ([])) (.fork (decide (M < P (↑q : Int).toNat)) (.stop (Hd.leaf (.bool false)) [] ([])) (.left (decide ((-9223372036854775808 : Int) ≤ (↑q : Int) + 1 ∧ (↑q : Int) + 1 ≤ 9223372036854775807)) (.stop (Hd.again (again' (fun (q : { q : Nat // q ≤ n ∧ ∀ (i : Nat), i < q → (-1 : Int) ≤ P i ∧ P i ≤ M }) => upS M n P q.val) (fun (x : { q : Nat // q ≤ n ∧ ∀ (i : Nat), i < q → (-1 : Int) ≤ P i ∧ P i ≤ M }) => []) (fun (q : { q : Nat // q ≤ n ∧ ∀ (i : Nat), i < q → (-1 : Int) ≤ P i ∧ P i ≤ M }) => n - q.val) ⟨q, ⟨q1, qm⟩⟩) [.sint .i64 M, .top, .top, .top, .bool false, .top, .sint .i64 (P (↑q : Int).toNat), .data 1 n fun (i : Nat) => [.sint .i64 (P i)], .sint .i64 (↑n : Int), .sint .i64 ((↑q : Int) + 1), .bool true, AV.dptr [.sint .i64 (P (↑q : Int).toNat)], .sint .i64 (P (↑q : Int).toNat), .sint .i64 (P (↑q : Int).toNat), .bool false, .bool false, .sint .i64 (P (↑q : Int).toNat), .sint .i64 M, .bool false, .bool false, .sint .i64 ((↑q : Int) + 1)]) [] ([])))))) (.stop (Hd.leaf (.bool true)) [] ([]))) (by kernel_rfl) ?_
  refine hold_forkD (fun h1 => ?_) (fun h1 => ?_)
  ·
   refine hl (bc fun h2 => by omega) ?_
   refine hold_forkD (fun h2 => ?_) (fun h2 => ?_)
   ·
    refine hold_stop (fun hd hb => ?_)
    exact ok_leaf0 hd rfl ⟨rfl, .inr ⟨rfl, fun h => by have := h q (by omega); rw [Int.toNat_natCast] at *; omega⟩⟩
   refine hold_forkD (fun h3 => ?_) (fun h3 => ?_)
   ·
    refine hold_stop (fun hd hb => ?_)
    exact ok_leaf0 hd rfl ⟨rfl, .inr ⟨rfl, fun h => by have := h q (by omega); rw [Int.toNat_natCast] at *; omega⟩⟩
   refine hl (bc fun h4 => by omega) ?_
   refine hold_stop (fun hd hb => ?_)
   refine ok_again hd [] ⟨q + 1, by omega, fun j hj => ?_⟩ (by show n - (q + 1) < n - q; omega) ⟨by simp [upS, fitsA, fitA, nf] <;> omega, trivial, .nil⟩
   by_cases e : j < q
   · exact qm j e
   · obtain rfl : j = q := by omega
     rw [Int.toNat_natCast] at *
     omega
  refine hold_stop (fun hd hb => ?_)
  exact ok_leaf0 hd rfl ⟨rfl, .inl ⟨rfl, fun j hj => qm j (by omega)⟩⟩
end Go.Proofs.YtkebdfbdneggkaaGreat
namespace Go.Proofs.YtkebdfbdneggkaaGreat
open Go Go.RowKit Sv
set_option linter.unusedVariables false
set_option maxRecDepth 100000
set_option maxHeartbeats 0
theorem look_cells {H : AH} {j c : Nat} {l : List Nat} {g : Option Nat} {cs : List AV} {s : Option (Nat × Nat × (Nat → List AV))} {r : List (Option Blk × Option (Nat × Nat × (Nat → List AV)))} (h : Sv.look H (j :: l) = (some (.cells c g cs), s) :: r) : cellsAt H j = some (g, cs) := by
  have e : Sv.look H (j :: l) = (H.tr.get j, seqAt H j) :: Sv.look H l := rfl
  rw [e] at h
  unfold cellsAt
  rw [(Prod.mk.inj (List.cons.inj h).1).1]
def upAll (M : Int) (n : Nat) (P : Nat → Int) : Prop := ∀ i, i < n → -1 ≤ P i ∧ P i ≤ M
theorem take_drop' {l : List AV} {r : Nat} (h : r < l.length) : (l.drop r).take 1 = [l[r]] := by
  rw [List.drop_eq_getElem_cons h, List.take_succ_cons, List.take_zero]
theorem cells_int {l : List Int} {i : Nat} (h : i < l.length) : ((l.map fun z => AV.sint .i64 z).drop (0 + i * 1)).take 1 = [.sint .i64 (l.getD i 0)] := by
  have hr : i < (l.map fun z => AV.sint .i64 z).length := by
    rw [List.length_map]
    exact h
  rw [Nat.zero_add, Nat.mul_one, take_drop' hr, List.getElem_map, List.getD_eq_getElem?_getD, List.getElem?_eq_getElem h, Option.getD_some]
/-- upTo of own numbers. -/
theorem up_own {o lp : Nat → Bool} {n0 : Nat} {R : AV → List NewB → Prop} {t : T} {b cap : Nat} {ex : Bool} {g : Option Nat} {M : Int} {cs : List AV} (l : List Int) (hd : t.hd = .call 29 [.int .i64 M, .slice b 0 l.length cap ex]) (hs : cellsAt t.heap b = some (g, cs)) (hcs : cs = l.map fun z => AV.sint .i64 z) (hc : l.length ≤ cap) (hl : l.length ≤ 1099511627776)
    (h1 : upAll M l.length (fun i => l.getD i 0) → (t.aft (.bool true) []).ok Tryz.prog o lp n0 R) (h2 : ¬ upAll M l.length (fun i => l.getD i 0) → (t.aft (.bool false) []).ok Tryz.prog o lp n0 R) : t.ok Tryz.prog o lp n0 R := by
  subst hcs
  exact ok_call hd (rup M l.length (fun i => l.getD i 0) hl) ⟨⟨rfl, rfl⟩, ⟨rfl, hc, _, _, hs, by rw [List.length_map]; omega, fun i hi => ⟨(cells_int hi).symm, rfl⟩⟩, trivial⟩ fun x G h => by
    rcases h with ⟨rfl, ⟨rfl, h⟩ | ⟨rfl, h⟩⟩
    · exact ⟨rfl, fun g hg => (by cases hg), h1 h⟩
    · exact ⟨rfl, fun g hg => (by cases hg), h2 h⟩
theorem up_one {M a : Int} : upAll M 1 (fun i => [a].getD i 0) ↔ -1 ≤ a ∧ a ≤ M :=
  ⟨fun h => h 0 (by omega), fun h i hi => by obtain rfl : i = 0 := (by omega); exact h⟩
theorem up_four {M a b c d : Int} : upAll M 4 (fun i => [a, b, c, d].getD i 0) ↔ (-1 ≤ a ∧ a ≤ M) ∧ (-1 ≤ b ∧ b ≤ M) ∧ (-1 ≤ c ∧ c ≤ M) ∧ -1 ≤ d ∧ d ≤ M :=
  ⟨fun h => ⟨h 0 (by omega), h 1 (by omega), h 2 (by omega), h 3 (by omega)⟩, fun h i hi => by
    rcases (by omega : i = 0 ∨ i = 1 ∨ i = 2 ∨ i = 3) with rfl | rfl | rfl | rfl
    · exact h.1
    · exact h.2.1
    · exact h.2.2.1
    · exact h.2.2.2⟩
def StI.may (s : StI) (q : Nat) (P : Nat → Int) : Prop :=
  (1 ≤ s.d ∧ s.d ≤ 12 ∧ s.k ≤ 7 ∧ q ≤ 255) ∧ ((-1 ≤ s.w ∧ s.w ≤ 255) ∧ (-1 ≤ s.J ∧ s.J ≤ 255) ∧ (-1 ≤ s.K ∧ s.K ≤ 255) ∧ -1 ≤ s.t ∧ s.t ≤ 255) ∧ (-1 ≤ s.N ∧ s.N ≤ 1073741824) ∧ upAll 254 q P ∧ -1 ≤ s.a ∧ s.a ≤ 1152921504606846976
theorem tmay (s : StI) (q : Nat) (P : Nat → Int) (hq : q ≤ 1099511627776) (hd : 0 ≤ s.d) : Runs Tryz.prog 7 [.agg (s.row (ints q P))] fun x G => G = [] ∧ ((x = .bool true ∧ s.may q P) ∨ (x = .bool false ∧ ¬ s.may q P)) := by
  refine runs_treeF plain mixed (fun g => Nat.beq g 29) (fun _ => true) 60 ?_
  refine ok_sk (.both (.stop []) (.both (.stop []) (.both (.stop []) (.both (.stop []) (.stop [1]))))) (S := .fork (decide (s.d < 1)) (.stop (Hd.leaf (.bool false)) [] ([])) (.fork (decide (12 < s.d)) (.stop (Hd.leaf (.bool false)) [] ([])) (.fork (decide (7 < s.k)) (.stop (Hd.leaf (.bool false)) [] ([])) (.fork (decide (255 < (↑q : Int))) (.stop (Hd.leaf (.bool false)) [] ([])) (.stop (Hd.call 29 [.int .i64 (255 : Int), .slice 1 0 4 4 true]) [1] ([(some (Blk.cells 1 none [.sint .i64 s.w, .sint .i64 s.J, .sint .i64 s.K, .sint .i64 s.t]), none)])))))) (by kernel_rfl) ?_
  refine hold_forkD (fun h0 => ?_) (fun h0 => ?_)
  ·
   refine hold_stop (fun hd hb => ?_)
   exact ok_leaf0 hd rfl ⟨rfl, .inr ⟨rfl, fun h => by have h1 := h.1; have h2 := h.2.1; have h3 := h.2.2.1; have h5 := h.2.2.2.2; omega⟩⟩
  refine hold_forkD (fun h1 => ?_) (fun h1 => ?_)
  ·
   refine hold_stop (fun hd hb => ?_)
   exact ok_leaf0 hd rfl ⟨rfl, .inr ⟨rfl, fun h => by have h1 := h.1; have h2 := h.2.1; have h3 := h.2.2.1; have h5 := h.2.2.2.2; omega⟩⟩
  refine hold_forkD (fun h2 => ?_) (fun h2 => ?_)
  ·
   refine hold_stop (fun hd hb => ?_)
   exact ok_leaf0 hd rfl ⟨rfl, .inr ⟨rfl, fun h => by have h1 := h.1; have h2 := h.2.1; have h3 := h.2.2.1; have h5 := h.2.2.2.2; omega⟩⟩
  refine hold_forkD (fun h3 => ?_) (fun h3 => ?_)
  ·
   refine hold_stop (fun hd hb => ?_)
   exact ok_leaf0 hd rfl ⟨rfl, .inr ⟨rfl, fun h => by have h1 := h.1; have h2 := h.2.1; have h3 := h.2.2.1; have h5 := h.2.2.2.2; omega⟩⟩
  refine hold_stop (fun hd hb => ?_)
  first
    | (refine up_own [s.w, s.J, s.K, s.t] hd (look_cells hb) (by kernel_rfl) (Nat.le_refl _) (Nat.le_of_ble_eq_true rfl) (fun u => ?_) (fun u => ?_) <;> rw [show [s.w, s.J, s.K, s.t].length = 4 from rfl, up_four] at u)
    | (refine up_own [s.N] hd (look_cells hb) (by kernel_rfl) (Nat.le_refl _) (Nat.le_of_ble_eq_true rfl) (fun u => ?_) (fun u => ?_) <;> rw [show [s.N].length = 1 from rfl, up_one] at u)
    | (refine ok_call hd (rup 254 q P hq) ⟨⟨rfl, rfl⟩, ⟨rfl, rfl⟩, trivial⟩ ?_
       rintro x G ⟨rfl, ⟨rfl, uu⟩ | ⟨rfl, uu⟩⟩ <;> refine ⟨rfl, fun g hg => (by cases hg), ?_⟩)
  ·
   refine ok_sk (.stop [2]) (S := .stop (Hd.call 29 [.int .i64 (1073741824 : Int), .slice 2 0 1 1 true]) [2] ([(some (Blk.cells 2 none [.sint .i64 s.N]), none)])) (by kernel_rfl) ?_
   refine hold_stop (fun hd hb => ?_)
   first
     | (refine up_own [s.w, s.J, s.K, s.t] hd (look_cells hb) (by kernel_rfl) (Nat.le_refl _) (Nat.le_of_ble_eq_true rfl) (fun u => ?_) (fun u => ?_) <;> rw [show [s.w, s.J, s.K, s.t].length = 4 from rfl, up_four] at u)
     | (refine up_own [s.N] hd (look_cells hb) (by kernel_rfl) (Nat.le_refl _) (Nat.le_of_ble_eq_true rfl) (fun u => ?_) (fun u => ?_) <;> rw [show [s.N].length = 1 from rfl, up_one] at u)
     | (refine ok_call hd (rup 254 q P hq) ⟨⟨rfl, rfl⟩, ⟨rfl, rfl⟩, trivial⟩ ?_
        rintro x G ⟨rfl, ⟨rfl, uu⟩ | ⟨rfl, uu⟩⟩ <;> refine ⟨rfl, fun g hg => (by cases hg), ?_⟩)
   ·
    refine ok_sk (.stop []) (S := .stop (Hd.call 29 [.int .i64 (254 : Int), .data 1 q fun (i : Nat) => [.sint .i64 (P i)]]) [] ([])) (by kernel_rfl) ?_
    refine hold_stop (fun hd hb => ?_)
    first
      | (refine up_own [s.w, s.J, s.K, s.t] hd (look_cells hb) (by kernel_rfl) (Nat.le_refl _) (Nat.le_of_ble_eq_true rfl) (fun u => ?_) (fun u => ?_) <;> rw [show [s.w, s.J, s.K, s.t].length = 4 from rfl, up_four] at u)
      | (refine up_own [s.N] hd (look_cells hb) (by kernel_rfl) (Nat.le_refl _) (Nat.le_of_ble_eq_true rfl) (fun u => ?_) (fun u => ?_) <;> rw [show [s.N].length = 1 from rfl, up_one] at u)
      | (refine ok_call hd (rup 254 q P hq) ⟨⟨rfl, rfl⟩, ⟨rfl, rfl⟩, trivial⟩ ?_
         rintro x G ⟨rfl, ⟨rfl, uu⟩ | ⟨rfl, uu⟩⟩ <;> refine ⟨rfl, fun g hg => (by cases hg), ?_⟩)
    ·
     refine ok_sk (.both (.both (.stop []) (.stop [])) (.stop [])) (S := .fork (decide ((-1 : Int) ≤ s.a)) (.fork (decide (s.a ≤ 1152921504606846976)) (.stop (Hd.leaf (.bool true)) [] ([])) (.stop (Hd.leaf (.bool false)) [] ([]))) (.stop (Hd.leaf (.bool false)) [] ([]))) (by kernel_rfl) ?_
     refine hold_forkD (fun h7 => ?_) (fun h7 => ?_)
     ·
      refine hold_forkD (fun h8 => ?_) (fun h8 => ?_)
      ·
       refine hold_stop (fun hd hb => ?_)
       exact ok_leaf0 hd rfl ⟨rfl, .inl ⟨rfl, ⟨by omega, by omega, by omega, uu, by omega⟩⟩⟩
      refine hold_stop (fun hd hb => ?_)
      exact ok_leaf0 hd rfl ⟨rfl, .inr ⟨rfl, fun h => by have h1 := h.1; have h2 := h.2.1; have h3 := h.2.2.1; have h5 := h.2.2.2.2; omega⟩⟩
     refine hold_stop (fun hd hb => ?_)
     exact ok_leaf0 hd rfl ⟨rfl, .inr ⟨rfl, fun h => by have h1 := h.1; have h2 := h.2.1; have h3 := h.2.2.1; have h5 := h.2.2.2.2; omega⟩⟩
    refine ok_sk (.stop []) (S := .stop (Hd.leaf (.bool false)) [] ([])) (by kernel_rfl) ?_
    refine hold_stop (fun hd hb => ?_)
    exact ok_leaf0 hd rfl ⟨rfl, .inr ⟨rfl, fun h => uu h.2.2.2.1⟩⟩
   refine ok_sk (.stop []) (S := .stop (Hd.leaf (.bool false)) [] ([])) (by kernel_rfl) ?_
   refine hold_stop (fun hd hb => ?_)
   exact ok_leaf0 hd rfl ⟨rfl, .inr ⟨rfl, fun h => by have h1 := h.1; have h2 := h.2.1; have h3 := h.2.2.1; have h5 := h.2.2.2.2; omega⟩⟩
  refine ok_sk (.stop []) (S := .stop (Hd.leaf (.bool false)) [] ([])) (by kernel_rfl) ?_
  refine hold_stop (fun hd hb => ?_)
  exact ok_leaf0 hd rfl ⟨rfl, .inr ⟨rfl, fun h => by have h1 := h.1; have h2 := h.2.1; have h3 := h.2.2.1; have h5 := h.2.2.2.2; omega⟩⟩
end Go.Proofs.YtkebdfbdneggkaaGreat
namespace Go.Proofs.YtkebdfbdneggkaaGreat
open Go Go.RowKit Sv
set_option linter.unusedVariables false
set_option maxRecDepth 100000
set_option maxHeartbeats 0
theorem st_eq {s p : StI} (h : s.d = p.d ∧ s.w = p.w ∧ s.k = p.k ∧ s.n = p.n ∧ s.t = p.t ∧ s.a = p.a ∧ s.r = p.r ∧ s.o = p.o ∧ s.K = p.K ∧ s.J = p.J ∧ s.N = p.N) : s = p := by
  cases s
  cases p
  simp only at h
  obtain ⟨rfl, rfl, rfl, rfl, rfl, rfl, rfl, rfl, rfl, rfl, rfl⟩ := h
  rfl
def eqSt (s p : StI) (n k : Nat) (P Q : Nat → Int) : Prop := s = p ∧ n = k ∧ ∀ j, j < n → P j = Q j
def tsS (i : Nat) : List AV := [.top, .top, .ptr 0 0, .ptr 1 0, .top, .sint .i64 (i : Int), .top, .top, .top, .top, .top, .top, .top, .top, .top, .top, .top, .top, .top, .top, .top, .top, .top, .top, .top, .top, .top, .top, .top, .top, .top, .top, .top, .top, .top, .top, .top, .top, .top, .top, .top, .top, .top, .top, .top, .top, .top, .top, .top, .top, .top, .top, .top, .top, .top, .top, .top, .top, .top, .top, .top, .top, .top, .top, .top, .top, .top, .top, .top, .top, .top]
theorem fits_cc {H : AH} {j0 j1 c0 c1 : Nat} {g0 g1 : Option Nat} {cs0 cs1 ds0 ds1 xs bs : List AV} {s0 s1 : Option (Nat × Nat × (Nat → List AV))}
    (hb : Sv.look H [j0, j1] = [(some (.cells c0 g0 cs0), s0), (some (.cells c1 g1 cs1), s1)]) (hc : c0 ≠ c1) (hx : fitsA [some j0, some j1] bs xs) (h0 : fitsA [some j0, some j1] ds0 cs0) (h1 : fitsA [some j0, some j1] ds1 cs1) : Fits [some j0, some j1] xs H bs [.cells g0 ds0, .cells g1 ds1] := by
  have e : Sv.look H [j0, j1] = [(H.tr.get j0, seqAt H j0), (H.tr.get j1, seqAt H j1)] := rfl
  rw [e] at hb
  simp only [List.cons.injEq, Prod.mk.injEq, and_true] at hb
  obtain ⟨⟨a0, _⟩, ⟨a1, _⟩⟩ := hb
  refine ⟨hx, ⟨⟨_, _, a0, h0⟩, ⟨_, _, a1, h1⟩, trivial⟩, ?_⟩
  simp [AH.clsOf, a0, a1, Blk.cls, hc]
theorem tsame (s p : StI) (n k : Nat) (P Q : Nat → Int) (hn : n ≤ 1099511627776) (hk : k ≤ 1099511627776) : Runs Tryz.prog 12 [.agg (s.row (ints n P)), .agg (p.row (ints k Q))] fun x G => G = [] ∧ ((x = .bool true ∧ eqSt s p n k P Q) ∨ (x = .bool false ∧ ¬ eqSt s p n k P Q)) := by
  refine runs_treeF plain mixed (fun _ => false) (fun _ => true) 60 ?_
  refine ok_sk (.both (.stop [0, 1]) (.stop [])) (S := .fork (decide ((↑n : Int) = (↑k : Int))) (.stop (Hd.loop 54 [.agg [.sint .u8 s.d, .sint .i64 s.w, .sint .u8 s.k, .sint .u64 s.n, .sint .i64 s.t, .sint .i64 s.a, .sint .u64 s.r, .sint .u64 s.o, .sint .i64 s.K, .sint .i64 s.J, .sint .i64 s.N, .data 1 n fun (i : Nat) => [.sint .i64 (P i)]], .agg [.sint .u8 p.d, .sint .i64 p.w, .sint .u8 p.k, .sint .u64 p.n, .sint .i64 p.t, .sint .i64 p.a, .sint .u64 p.r, .sint .u64 p.o, .sint .i64 p.K, .sint .i64 p.J, .sint .i64 p.N, .data 1 k fun (i : Nat) => [.sint .i64 (Q i)]], .ptr 0 0, .ptr 1 0, .bool false, .int .i64 (0 : Int), .ptr 0 11, .data 1 n fun (i : Nat) => [.sint .i64 (P i)], .sint .i64 (↑n : Int), .ptr 1 11, .data 1 k fun (i : Nat) => [.sint .i64 (Q i)], .sint .i64 (↑k : Int), .bool false, .tuple [], .tuple [], .tuple [], .tuple [], .tuple [], .tuple [], .tuple [], .tuple [], .tuple [], .tuple [], .tuple [], .tuple [], .tuple [], .tuple [], .tuple [], .tuple [], .tuple [], .tuple [], .tuple [], .tuple [], .tuple [], .tuple [], .tuple [], .tuple [], .tuple [], .tuple [], .tuple [], .tuple [], .tuple [], .tuple [], .tuple [], .tuple [], .tuple [], .tuple [], .tuple [], .tuple [], .tuple [], .tuple [], .tuple [], .tuple [], .tuple [], .tuple [], .tuple [], .tuple [], .tuple [], .tuple [], .tuple [], .tuple [], .tuple [], .tuple [], .tuple [], .tuple [], .tuple [], .tuple [], .tuple [], .tuple [], .tuple [], .tuple []]) [0, 1] ([(some (Blk.cells 0 none [.sint .u8 s.d, .sint .i64 s.w, .sint .u8 s.k, .sint .u64 s.n, .sint .i64 s.t, .sint .i64 s.a, .sint .u64 s.r, .sint .u64 s.o, .sint .i64 s.K, .sint .i64 s.J, .sint .i64 s.N, .data 1 n fun (i : Nat) => [.sint .i64 (P i)]]), none), (some (Blk.cells 1 none [.sint .u8 p.d, .sint .i64 p.w, .sint .u8 p.k, .sint .u64 p.n, .sint .i64 p.t, .sint .i64 p.a, .sint .u64 p.r, .sint .u64 p.o, .sint .i64 p.K, .sint .i64 p.J, .sint .i64 p.N, .data 1 k fun (i : Nat) => [.sint .i64 (Q i)]]), none)])) (.stop (Hd.leaf (.bool false)) [] ([]))) (by kernel_rfl) ?_
  refine hold_forkD (fun h0 => ?_) (fun h0 => ?_)
  ·
   refine hold_stop (fun hd hb => ?_)
   refine ok_loop hd (X := {i : Nat // i ≤ n ∧ ∀ j, j < i → P j = Q j}) (fun i => tsS i.1) (fun _ => [.cells none (s.row (ints n P)), .cells none (p.row (ints k Q))]) (fun i => n - i.1) [some 0, some 1] ⟨0, by omega, fun j hj => absurd hj (Nat.not_lt_zero j)⟩ (fits_cc hb (by decide) (by simp [tsS, fitsA, fitA, nf]) (by simp [StI.row, ints, fitsA, fitA, nf]) (by simp [StI.row, ints, fitsA, fitA, nf])) ?_
   rintro ⟨i, i1, im⟩
   refine ok_sk (.both (.l (.l (.both (.l (.stop [0, 1])) (.stop [])))) (.both (.both (.both (.both (.both (.both (.stop []) (.stop [])) (.stop [])) (.stop [])) (.stop [])) (.stop [])) (.stop []))) (S := .fork (decide ((↑i : Int) < (↑n : Int))) (.left (decide (0 ≤ (↑i : Int) ∧ (↑i : Int).toNat < n)) (.left (decide (0 ≤ (↑i : Int) ∧ (↑i : Int).toNat < k)) (.fork (decide (P (↑i : Int).toNat = Q (↑i : Int).toNat)) (.left (decide ((-9223372036854775808 : Int) ≤ (↑i : Int) + 1 ∧ (↑i : Int) + 1 ≤ 9223372036854775807)) (.stop (Hd.again (again' (fun (i : { i : Nat // i ≤ n ∧ ∀ (j : Nat), j < i → P j = Q j }) => tsS i.val) (fun (x : { i : Nat // i ≤ n ∧ ∀ (j : Nat), j < i → P j = Q j }) => [NewB.cells none (s.row (ints n P)), NewB.cells none (p.row (ints k Q))]) (fun (i : { i : Nat // i ≤ n ∧ ∀ (j : Nat), j < i → P j = Q j }) => n - i.val) ⟨i, ⟨i1, im⟩⟩) [.top, .top, .ptr 0 0, .ptr 1 0, .top, .sint .i64 ((↑i : Int) + 1), .top, .top, .top, .top, .top, .top, .top, .sint .i64 (↑i : Int), .ptr 0 11, .data 1 n fun (i : Nat) => [.sint .i64 (P i)], .sint .i64 (↑n : Int), .bool true, .sint .i64 (↑i : Int), .sint .i64 ((↑i : Int) + 1), .ptr 0 11, .data 1 n fun (i : Nat) => [.sint .i64 (P i)], .sint .i64 (↑i : Int), AV.dptr [.sint .i64 (P (↑i : Int).toNat)], .sint .i64 (P (↑i : Int).toNat), .ptr 1 11, .data 1 k fun (i : Nat) => [.sint .i64 (Q i)], .sint .i64 (↑i : Int), AV.dptr [.sint .i64 (Q (↑i : Int).toNat)], .sint .i64 (Q (↑i : Int).toNat), .bool false, .top, .top, .top, .top, .top, .top, .top, .top, .top, .top, .top, .top, .top, .top, .top, .top, .top, .top, .top, .top, .top, .top, .top, .top, .top, .top, .top, .top, .top, .top, .top, .top, .top, .top, .top, .top, .top, .top, .top, .top]) [0, 1] ([(some (Blk.cells 0 none [.sint .u8 s.d, .sint .i64 s.w, .sint .u8 s.k, .sint .u64 s.n, .sint .i64 s.t, .sint .i64 s.a, .sint .u64 s.r, .sint .u64 s.o, .sint .i64 s.K, .sint .i64 s.J, .sint .i64 s.N, .data 1 n fun (i : Nat) => [.sint .i64 (P i)]]), none), (some (Blk.cells 1 none [.sint .u8 p.d, .sint .i64 p.w, .sint .u8 p.k, .sint .u64 p.n, .sint .i64 p.t, .sint .i64 p.a, .sint .u64 p.r, .sint .u64 p.o, .sint .i64 p.K, .sint .i64 p.J, .sint .i64 p.N, .data 1 k fun (i : Nat) => [.sint .i64 (Q i)]]), none)]))) (.stop (Hd.leaf (.bool false)) [] ([]))))) (.fork (decide (s.d = p.d)) (.fork (decide (s.w = p.w)) (.fork (@decide (s.k = p.k ∧ s.n = p.n ∧ s.t = p.t ∧ s.a = p.a ∧ s.r = p.r ∧ s.o = p.o) pd) (.fork (decide (s.K = p.K)) (.fork (decide (s.J = p.J)) (.fork (decide (s.N = p.N)) (.stop (Hd.leaf (.bool true)) [] ([])) (.stop (Hd.leaf (.bool false)) [] ([]))) (.stop (Hd.leaf (.bool false)) [] ([]))) (.stop (Hd.leaf (.bool false)) [] ([]))) (.stop (Hd.leaf (.bool false)) [] ([]))) (.stop (Hd.leaf (.bool false)) [] ([]))) (.stop (Hd.leaf (.bool false)) [] ([])))) (by kernel_rfl) ?_
   refine hold_forkD (fun h2 => ?_) (fun h2 => ?_)
   ·
    refine hl (bc fun h3 => by omega) ?_
    refine hl (bc fun h3 => by omega) ?_
    refine hold_forkD (fun h3 => ?_) (fun h3 => ?_)
    ·
     refine hl (bc fun h4 => by omega) ?_
     refine hold_stop (fun hd hb => ?_)
     refine ok_again hd [some 0, some 1] ⟨i + 1, by omega, fun j hj => ?_⟩ (by show n - (i + 1) < n - i; omega) (fits_cc hb (by decide) (by simp [tsS, fitsA, fitA, nf]) (by simp [StI.row, ints, fitsA, fitA, nf]) (by simp [StI.row, ints, fitsA, fitA, nf]))
     by_cases e : j < i
     · exact im j e
     · obtain rfl : j = i := by omega
       rw [Int.toNat_natCast] at *
       omega
    refine hold_stop (fun hd hb => ?_)
    exact ok_leaf0 hd rfl ⟨rfl, .inr ⟨rfl, fun h => by have := h.2.2 i (by omega); rw [Int.toNat_natCast] at *; omega⟩⟩
   refine hold_forkD (fun h3 => ?_) (fun h3 => ?_)
   ·
    refine hold_forkD (fun h4 => ?_) (fun h4 => ?_)
    ·
     refine hold_forkD (fun h5 => ?_) (fun h5 => ?_)
     ·
      refine hold_forkD (fun h6 => ?_) (fun h6 => ?_)
      ·
       refine hold_forkD (fun h7 => ?_) (fun h7 => ?_)
       ·
        refine hold_forkD (fun h8 => ?_) (fun h8 => ?_)
        ·
         refine hold_stop (fun hd hb => ?_)
         exact ok_leaf0 hd rfl ⟨rfl, .inl ⟨rfl, st_eq (by omega), by omega, fun j hj => im j (by omega)⟩⟩
        refine hold_stop (fun hd hb => ?_)
        exact ok_leaf0 hd rfl ⟨rfl, .inr ⟨rfl, fun h => by obtain ⟨rfl, _⟩ := h; first | omega | exact absurd ⟨rfl, rfl, rfl, rfl, rfl, rfl⟩ (by assumption)⟩⟩
       refine hold_stop (fun hd hb => ?_)
       exact ok_leaf0 hd rfl ⟨rfl, .inr ⟨rfl, fun h => by obtain ⟨rfl, _⟩ := h; first | omega | exact absurd ⟨rfl, rfl, rfl, rfl, rfl, rfl⟩ (by assumption)⟩⟩
      refine hold_stop (fun hd hb => ?_)
      exact ok_leaf0 hd rfl ⟨rfl, .inr ⟨rfl, fun h => by obtain ⟨rfl, _⟩ := h; first | omega | exact absurd ⟨rfl, rfl, rfl, rfl, rfl, rfl⟩ (by assumption)⟩⟩
     refine hold_stop (fun hd hb => ?_)
     exact ok_leaf0 hd rfl ⟨rfl, .inr ⟨rfl, fun h => by obtain ⟨rfl, _⟩ := h; first | omega | exact absurd ⟨rfl, rfl, rfl, rfl, rfl, rfl⟩ (by assumption)⟩⟩
    refine hold_stop (fun hd hb => ?_)
    exact ok_leaf0 hd rfl ⟨rfl, .inr ⟨rfl, fun h => by obtain ⟨rfl, _⟩ := h; first | omega | exact absurd ⟨rfl, rfl, rfl, rfl, rfl, rfl⟩ (by assumption)⟩⟩
   refine hold_stop (fun hd hb => ?_)
   exact ok_leaf0 hd rfl ⟨rfl, .inr ⟨rfl, fun h => by obtain ⟨rfl, _⟩ := h; first | omega | exact absurd ⟨rfl, rfl, rfl, rfl, rfl, rfl⟩ (by assumption)⟩⟩
  refine hold_stop (fun hd hb => ?_)
  exact ok_leaf0 hd rfl ⟨rfl, .inr ⟨rfl, fun h => absurd h.2.1 (by omega)⟩⟩
end Go.Proofs.YtkebdfbdneggkaaGreat
namespace Go.Proofs.YtkebdfbdneggkaaGreat
open Go Go.RowKit Sv
set_option linter.unusedVariables false
set_option maxRecDepth 100000
set_option maxHeartbeats 0
def StI.rng (s : StI) : Prop := (0 ≤ s.d ∧ s.d ≤ 255) ∧ (0 ≤ s.k ∧ s.k ≤ 255) ∧ (0 ≤ s.n ∧ s.n ≤ 18446744073709551615) ∧ (0 ≤ s.r ∧ s.r ≤ 18446744073709551615) ∧ (0 ≤ s.o ∧ s.o ≤ 18446744073709551615)
/-- a step's first 47 bytes. -/
def StI.hd (s : StI) (q : Nat) : List Int := [(s.d % 256), ((s.w + 1) / 256 % 256), ((s.w + 1) % 256), ((s.J + 1) / 256 % 256), ((s.J + 1) % 256), ((s.K + 1) / 256 % 256), ((s.K + 1) % 256), ((s.N + 1) / 16777216 % 256), ((s.N + 1) / 65536 % 256), ((s.N + 1) / 256 % 256), ((s.N + 1) % 256), (s.k % 256), (s.n / 72057594037927936 % 256), (s.n / 281474976710656 % 256), (s.n / 1099511627776 % 256), (s.n / 4294967296 % 256), (s.n / 16777216 % 256), (s.n / 65536 % 256), (s.n / 256 % 256), (s.n % 256), ((s.t + 1) / 256 % 256), ((s.t + 1) % 256), ((s.a + 1) / 72057594037927936 % 256), ((s.a + 1) / 281474976710656 % 256), ((s.a + 1) / 1099511627776 % 256), ((s.a + 1) / 4294967296 % 256), ((s.a + 1) / 16777216 % 256), ((s.a + 1) / 65536 % 256), ((s.a + 1) / 256 % 256), ((s.a + 1) % 256), (s.r / 72057594037927936 % 256), (s.r / 281474976710656 % 256), (s.r / 1099511627776 % 256), (s.r / 4294967296 % 256), (s.r / 16777216 % 256), (s.r / 65536 % 256), (s.r / 256 % 256), (s.r % 256), (s.o / 72057594037927936 % 256), (s.o / 281474976710656 % 256), (s.o / 1099511627776 % 256), (s.o / 4294967296 % 256), (s.o / 16777216 % 256), (s.o / 65536 % 256), (s.o / 256 % 256), (s.o % 256), ((q : Int) % 256)]
def rowT (s : StI) (q : Nat) (P : Nat → Int) (i : Nat) : List AV := [.sint .u8 (if i < 47 then (s.hd q).getD i 0 else (P (i - 47) + 1) % 256)]
def tpS (q : Nat) (P : Nat → Int) (i : Nat) : List AV := [.top, .top, .top, .ptr 0 0, .fn 27 [] [.ptr 0 0], .top, .top, .top, .top, .top, .top, .top, .top, .top, .top, .top, .top, .top, .top, .top, .top, .top, .top, .top, .top, .top, .top, .top, .top, .top, .top, .top, .top, .top, .top, .top, .top, .top, .top, .top, .top, .top, .top, .top, .top, .top, .top, .top, .top, .top, .top, .top, .top, .top, .top, .top, .top, .top, .top, .top, .top, .top, .top, .top, .top, .top, .top, .top, .top, .top, .top, .top, .top, .top, .top, .top, .top, .top, .top, .top, .top, .top, .top, .top, ints q P, .sint .i64 (q : Int), .sint .i64 (i : Int), .top, .top, .top, .top, .top, .top, .top, .top, .top, .top]
def tpG (s : StI) (q : Nat) (P : Nat → Int) (i : Nat) : List NewB := [.cells none [.gsl 1 (47 + i)], .seq 1 (47 + i) (rowT s q P)]
theorem rowT_hd (s : StI) (q : Nat) (P : Nat → Int) {cs : List AV} (e : cs = (s.hd q).map fun z => AV.sint .u8 z) : ∀ i, i < 47 → rowT s q P i = (cs.drop (i * 1)).take 1 ∧ nfs (rowT s q P i) = true := fun i hi => by
  refine ⟨?_, rfl⟩
  have hr : i < ((s.hd q).map fun z => AV.sint .u8 z).length := by
    rw [List.length_map]
    exact hi
  rw [e, Nat.mul_one, take_drop' hr, List.getElem_map]
  unfold rowT
  rw [if_pos hi, List.getD_eq_getElem?_getD, List.getElem?_eq_getElem (by exact hi), Option.getD_some]
  rfl
theorem rowT_glue (s : StI) (q : Nat) (P : Nat → Int) (i : Nat) {g : Nat → List AV} (hg : g 0 = [.sint .u8 ((P i + 1) % 256)]) : ∀ j, j < 47 + (i + 1) → rowT s q P j = glue (47 + i) (rowT s q P) g j ∧ nfs (rowT s q P j) = true := fun j hj => by
  refine ⟨?_, rfl⟩
  unfold glue
  by_cases h : j < 47 + i
  · rw [if_pos h]
  · obtain rfl : j = 47 + i := by omega
    rw [if_neg h, Nat.sub_self, hg]
    unfold rowT
    rw [if_neg (by omega), Nat.add_sub_cancel_left]
theorem fits_cs2 {H : AH} {j0 j1 c0 c1 z n n' m : Nat} {g0 : Option Nat} {cs0 ds0 xs bs : List AV} {f f' : Nat → List AV} {s0 : Option (Nat × Nat × (Nat → List AV))}
    (hb : Sv.look H [j0, j1] = [(some (.cells c0 g0 cs0), s0), (some (.seq c1 z m f), some (z, n, f))]) (hc : c0 ≠ c1) (hx : fitsA [some j0, some j1] bs xs) (h0 : fitsA [some j0, some j1] ds0 cs0) (h1 : n' ≤ n ∧ ∀ i, i < n' → f' i = f i ∧ nfs (f' i) = true) : Fits [some j0, some j1] xs H bs [.cells g0 ds0, .seq z n' f'] := by
  have e : Sv.look H [j0, j1] = [(H.tr.get j0, seqAt H j0), (H.tr.get j1, seqAt H j1)] := rfl
  rw [e] at hb
  simp only [List.cons.injEq, Prod.mk.injEq, and_true] at hb
  obtain ⟨⟨a0, _⟩, ⟨a1, b1⟩⟩ := hb
  refine ⟨hx, ⟨⟨_, _, a0, h0⟩, .inl ⟨_, _, b1, h1⟩, trivial⟩, ?_⟩
  simp [AH.clsOf, a0, a1, Blk.cls, hc]
theorem fits_cr2 {H : AH} {j0 j1 c0 c1 z n' : Nat} {g0 : Option Nat} {cs0 cs1 ds0 xs bs : List AV} {f' : Nat → List AV} {s0 s1 : Option (Nat × Nat × (Nat → List AV))}
    (hb : Sv.look H [j0, j1] = [(some (.cells c0 g0 cs0), s0), (some (.cells c1 (some z) cs1), s1)]) (hc : c0 ≠ c1) (hx : fitsA [some j0, some j1] bs xs) (h0 : fitsA [some j0, some j1] ds0 cs0) (hz : 0 < z) (hn : n' * z ≤ cs1.length) (h1 : ∀ i, i < n' → f' i = (cs1.drop (i * z)).take z ∧ nfs (f' i) = true) : Fits [some j0, some j1] xs H bs [.cells g0 ds0, .seq z n' f'] := by
  have e : Sv.look H [j0, j1] = [(H.tr.get j0, seqAt H j0), (H.tr.get j1, seqAt H j1)] := rfl
  rw [e] at hb
  simp only [List.cons.injEq, Prod.mk.injEq, and_true] at hb
  obtain ⟨⟨a0, _⟩, ⟨a1, _⟩⟩ := hb
  refine ⟨hx, ⟨⟨_, _, a0, h0⟩, .inr ⟨_, _, a1, hz, hn, h1⟩, trivial⟩, ?_⟩
  simp [AH.clsOf, a0, a1, Blk.cls, hc]
theorem look_join {H : AH} {j : Nat} {l : List Nat} {b : Option Blk × Option (Nat × Nat × (Nat → List AV))} {r : List (Option Blk × Option (Nat × Nat × (Nat → List AV)))} (h : Sv.look H [j] = [b]) (k : Sv.look H l = r) : Sv.look H (j :: l) = b :: r := by
  have e : Sv.look H (j :: l) = (H.tr.get j, seqAt H j) :: Sv.look H l := rfl
  have e' : Sv.look H [j] = [(H.tr.get j, seqAt H j)] := rfl
  rw [e'] at h
  rw [e, k, (List.cons.inj h).1]
theorem tput (s : StI) (q : Nat) (P : Nat → Int) (hq : q ≤ 1099511627776) (hr : s.rng) : Runs Tryz.prog 6 [.agg (s.row (ints q P))] fun x G => (x = .nilSlice ∧ G = [] ∧ ¬ s.may q P) ∨ (s.may q P ∧ x = .gsl 0 (47 + q) ∧ G = [.seq 1 (47 + q) (rowT s q P)]) := by
  unfold StI.rng at hr
  refine runs_treeF plain mixed (fun g => Nat.beq g 7) (fun r => !(Nat.beq r 7)) 60 ?_
  refine ok_sk (.stop []) (S := .stop (Hd.call 7 [.agg [.sint .u8 s.d, .sint .i64 s.w, .sint .u8 s.k, .sint .u64 s.n, .sint .i64 s.t, .sint .i64 s.a, .sint .u64 s.r, .sint .u64 s.o, .sint .i64 s.K, .sint .i64 s.J, .sint .i64 s.N, .data 1 q fun (i : Nat) => [.sint .i64 (P i)]]]) [] ([])) (by kernel_rfl) ?_
  refine hold_stop (fun hd hb => ?_)
  refine ok_call0 hd (tmay s q P hq (by omega)) rfl ?_
  rintro x G ⟨rfl, ⟨rfl, my⟩ | ⟨rfl, my⟩⟩ <;> refine ⟨rfl, fun g hg => (by cases hg), ?_⟩
  have m1 := my.1
  have m2 := my.2.1
  have m3 := my.2.2.1
  have m4 := my.2.2.2.1
  have m5 := my.2.2.2.2
  ·
   refine ok_sk (.l (.r (.l (.l (.r (.l (.l (.r (.l (.l (.r (.l (.l (.r (.l (.r (.r (.l (.l (.r (.l (.l (.r (.r (.r (.l (.r (.stop [0, 1, 5, 56])))))))))))))))))))))))))))) (S := .left (decide (0 ≤ s.d ∧ s.d ≤ 18446744073709551615)) (.right (decide (255 < s.d)) (.left (decide ((-9223372036854775808 : Int) ≤ s.w + 1 ∧ s.w + 1 ≤ 9223372036854775807)) (.left (decide (0 ≤ s.w + 1 ∧ s.w + 1 ≤ 18446744073709551615)) (.right (decide (65535 < s.w + 1)) (.left (decide ((-9223372036854775808 : Int) ≤ s.J + 1 ∧ s.J + 1 ≤ 9223372036854775807)) (.left (decide (0 ≤ s.J + 1 ∧ s.J + 1 ≤ 18446744073709551615)) (.right (decide (65535 < s.J + 1)) (.left (decide ((-9223372036854775808 : Int) ≤ s.K + 1 ∧ s.K + 1 ≤ 9223372036854775807)) (.left (decide (0 ≤ s.K + 1 ∧ s.K + 1 ≤ 18446744073709551615)) (.right (decide (65535 < s.K + 1)) (.left (decide ((-9223372036854775808 : Int) ≤ s.N + 1 ∧ s.N + 1 ≤ 9223372036854775807)) (.left (decide (0 ≤ s.N + 1 ∧ s.N + 1 ≤ 18446744073709551615)) (.right (decide (4294967295 < s.N + 1)) (.left (decide (0 ≤ s.k ∧ s.k ≤ 18446744073709551615)) (.right (decide (255 < s.k)) (.right (decide (18446744073709551615 < s.n)) (.left (decide ((-9223372036854775808 : Int) ≤ s.t + 1 ∧ s.t + 1 ≤ 9223372036854775807)) (.left (decide (0 ≤ s.t + 1 ∧ s.t + 1 ≤ 18446744073709551615)) (.right (decide (65535 < s.t + 1)) (.left (decide ((-9223372036854775808 : Int) ≤ s.a + 1 ∧ s.a + 1 ≤ 9223372036854775807)) (.left (decide (0 ≤ s.a + 1 ∧ s.a + 1 ≤ 18446744073709551615)) (.right (decide (18446744073709551615 < s.a + 1)) (.right (decide (18446744073709551615 < s.r)) (.right (decide (18446744073709551615 < s.o)) (.left (decide (0 ≤ (↑q : Int) ∧ (↑q : Int) ≤ 18446744073709551615)) (.right (decide (255 < (↑q : Int))) (.stop (Hd.loop 42 [.agg [.sint .u8 s.d, .sint .i64 s.w, .sint .u8 s.k, .sint .u64 s.n, .sint .i64 s.t, .sint .i64 s.a, .sint .u64 s.r, .sint .u64 s.o, .sint .i64 s.K, .sint .i64 s.J, .sint .i64 s.N, .data 1 q fun (i : Nat) => [.sint .i64 (P i)]], .ptr 0 0, .nilSlice, .ptr 1 0, AV.fn 27 [] [.ptr 1 0], .tuple [], .sint .i64 s.K, .tuple [], .tuple [], .agg [.sint .u8 s.d, .sint .i64 s.w, .sint .u8 s.k, .sint .u64 s.n, .sint .i64 s.t, .sint .i64 s.a, .sint .u64 s.r, .sint .u64 s.o, .sint .i64 s.K, .sint .i64 s.J, .sint .i64 s.N, .data 1 q fun (i : Nat) => [.sint .i64 (P i)]], .bool true, .bool false, AV.fn 27 [] [.ptr 1 0], AV.fn 27 [] [.ptr 1 0], .ptr 0 0, .sint .u8 s.d, .sint .u64 s.d, .tuple [], .ptr 0 1, .sint .i64 s.w, .ptr 0 9, .sint .i64 s.J, .ptr 0 8, .sint .i64 s.K, .slice 5 0 3 3 true, .int .i64 (3 : Int), .int .i64 (3 : Int), .bool false, .ptr 5 2, .sint .i64 s.K, AV.fn 27 [] [.ptr 1 0], .sint .i64 s.K, .sint .i64 (s.K + 1), .sint .u64 (s.K + 1), .tuple [], .int .i64 (3 : Int), AV.fn 27 [] [.ptr 1 0], .ptr 0 10, .sint .i64 s.N, .sint .i64 (s.N + 1), .sint .u64 (s.N + 1), .tuple [], AV.fn 27 [] [.ptr 1 0], .ptr 0 2, .ptr 0 2, .sint .u8 s.k, .sint .u64 s.k, .tuple [], AV.fn 27 [] [.ptr 1 0], .ptr 0 2, .ptr 0 3, .sint .u64 s.n, .tuple [], AV.fn 27 [] [.ptr 1 0], .ptr 0 2, .ptr 0 4, .sint .i64 s.t, .sint .i64 (s.t + 1), .sint .u64 (s.t + 1), .tuple [], AV.fn 27 [] [.ptr 1 0], .ptr 0 2, .ptr 0 5, .sint .i64 s.a, .sint .i64 (s.a + 1), .sint .u64 (s.a + 1), .tuple [], AV.fn 27 [] [.ptr 1 0], .ptr 0 2, .ptr 0 6, .sint .u64 s.r, .tuple [], AV.fn 27 [] [.ptr 1 0], .ptr 0 2, .ptr 0 7, .sint .u64 s.o, .tuple [], AV.fn 27 [] [.ptr 1 0], .ptr 0 11, .data 1 q fun (i : Nat) => [.sint .i64 (P i)], .sint .i64 (↑q : Int), .sint .u64 (↑q : Int), .tuple [], .ptr 0 11, .data 1 q fun (i : Nat) => [.sint .i64 (P i)], .sint .i64 (↑q : Int), .int .i64 (0 : Int), .tuple [], .tuple [], .tuple [], .tuple [], .tuple [], .tuple [], .tuple [], .tuple [], .tuple [], .tuple []]) [0, 1, 5, 56] ([(some (Blk.cells 0 none [.sint .u8 s.d, .sint .i64 s.w, .sint .u8 s.k, .sint .u64 s.n, .sint .i64 s.t, .sint .i64 s.a, .sint .u64 s.r, .sint .u64 s.o, .sint .i64 s.K, .sint .i64 s.J, .sint .i64 s.N, .data 1 q fun (i : Nat) => [.sint .i64 (P i)]]), none), (some (Blk.cells 1 none [.slice 56 0 47 47 false]), none), (some (Blk.cells 5 none [.sint .i64 s.w, .sint .i64 s.J, .sint .i64 s.K]), none), (some (Blk.cells 4 (some 1) [.sint .u8 (s.d % 256), .sint .u8 ((s.w + 1) / 256 % 256), .sint .u8 ((s.w + 1) % 256), .sint .u8 ((s.J + 1) / 256 % 256), .sint .u8 ((s.J + 1) % 256), .sint .u8 ((s.K + 1) / 256 % 256), .sint .u8 ((s.K + 1) % 256), .sint .u8 ((s.N + 1) / 16777216 % 256), .sint .u8 ((s.N + 1) / 65536 % 256), .sint .u8 ((s.N + 1) / 256 % 256), .sint .u8 ((s.N + 1) % 256), .sint .u8 (s.k % 256), .sint .u8 (s.n / 72057594037927936 % 256), .sint .u8 (s.n / 281474976710656 % 256), .sint .u8 (s.n / 1099511627776 % 256), .sint .u8 (s.n / 4294967296 % 256), .sint .u8 (s.n / 16777216 % 256), .sint .u8 (s.n / 65536 % 256), .sint .u8 (s.n / 256 % 256), .sint .u8 (s.n % 256), .sint .u8 ((s.t + 1) / 256 % 256), .sint .u8 ((s.t + 1) % 256), .sint .u8 ((s.a + 1) / 72057594037927936 % 256), .sint .u8 ((s.a + 1) / 281474976710656 % 256), .sint .u8 ((s.a + 1) / 1099511627776 % 256), .sint .u8 ((s.a + 1) / 4294967296 % 256), .sint .u8 ((s.a + 1) / 16777216 % 256), .sint .u8 ((s.a + 1) / 65536 % 256), .sint .u8 ((s.a + 1) / 256 % 256), .sint .u8 ((s.a + 1) % 256), .sint .u8 (s.r / 72057594037927936 % 256), .sint .u8 (s.r / 281474976710656 % 256), .sint .u8 (s.r / 1099511627776 % 256), .sint .u8 (s.r / 4294967296 % 256), .sint .u8 (s.r / 16777216 % 256), .sint .u8 (s.r / 65536 % 256), .sint .u8 (s.r / 256 % 256), .sint .u8 (s.r % 256), .sint .u8 (s.o / 72057594037927936 % 256), .sint .u8 (s.o / 281474976710656 % 256), .sint .u8 (s.o / 1099511627776 % 256), .sint .u8 (s.o / 4294967296 % 256), .sint .u8 (s.o / 16777216 % 256), .sint .u8 (s.o / 65536 % 256), .sint .u8 (s.o / 256 % 256), .sint .u8 (s.o % 256), .sint .u8 ((↑q : Int) % 256)]), none)]))))))))))))))))))))))))))))) (by kernel_rfl) ?_
   refine hl (bc fun h1 => by omega) ?_
   refine hzr (fun h1 => by omega) ?_
   refine hl (bc fun h1 => by omega) ?_
   refine hl (bc fun h1 => by omega) ?_
   refine hzr (fun h1 => by omega) ?_
   refine hl (bc fun h1 => by omega) ?_
   refine hl (bc fun h1 => by omega) ?_
   refine hzr (fun h1 => by omega) ?_
   refine hl (bc fun h1 => by omega) ?_
   refine hl (bc fun h1 => by omega) ?_
   refine hzr (fun h1 => by omega) ?_
   refine hl (bc fun h1 => by omega) ?_
   refine hl (bc fun h1 => by omega) ?_
   refine hzr (fun h1 => by omega) ?_
   refine hl (bc fun h1 => by omega) ?_
   refine hzr (fun h1 => by omega) ?_
   refine hzr (fun h1 => by omega) ?_
   refine hl (bc fun h1 => by omega) ?_
   refine hl (bc fun h1 => by omega) ?_
   refine hzr (fun h1 => by omega) ?_
   refine hl (bc fun h1 => by omega) ?_
   refine hl (bc fun h1 => by omega) ?_
   refine hzr (fun h1 => by omega) ?_
   refine hzr (fun h1 => by omega) ?_
   refine hzr (fun h1 => by omega) ?_
   refine hl (bc fun h1 => by omega) ?_
   refine hzr (fun h1 => by omega) ?_
   refine hold_stop (fun hd hb => ?_)
   refine ok_loop hd (X := {i : Nat // i ≤ q}) (fun i => tpS q P i.1) (fun i => tpG s q P i.1) (fun i => q - i.1) [some 1, some 56] ⟨0, by omega⟩ (fits_cr2 (look_join (look_hd (look_tl hb)) (look_hd (look_tl (look_tl (look_tl hb))))) (by decide) (by simp [tpS, ints, fitsA, fitA, nf]) (by simp [fitsA, fitA, nf]) (by decide) (Nat.le_of_ble_eq_true (by kernel_rfl)) (rowT_hd s q P (by kernel_rfl))) ?_
   rintro ⟨i, i1⟩
   refine ok_sk (.both (.l (.l (.l (.r (.l (.l (.l (.stop [0, 4])))))))) (.stop [1])) (S := .fork (decide ((↑i : Int) < (↑q : Int))) (.left (decide (0 ≤ (↑i : Int) ∧ (↑i : Int).toNat < q)) (.left (decide ((-9223372036854775808 : Int) ≤ P (↑i : Int).toNat + 1 ∧ P (↑i : Int).toNat + 1 ≤ 9223372036854775807)) (.left (decide (0 ≤ P (↑i : Int).toNat + 1 ∧ P (↑i : Int).toNat + 1 ≤ 18446744073709551615)) (.right (decide (255 < P (↑i : Int).toNat + 1)) (.left (@decide (1 < 65536 ∧ RowsOK 1 1 fun (i_1 : Nat) => List.take 1 (List.drop (i_1 * 1) [.sint .u8 ((P (↑i : Int).toNat + 1) % 256)])) pd) (.left (decide (47 + i ≤ 47 + i ∧ 47 + i < 65536)) (.left (decide ((-9223372036854775808 : Int) ≤ (↑i : Int) + 1 ∧ (↑i : Int) + 1 ≤ 9223372036854775807)) (.stop (Hd.again (again' (fun (i : { i : Nat // i ≤ q }) => tpS q P i.val) (fun (i : { i : Nat // i ≤ q }) => tpG s q P i.val) (fun (i : { i : Nat // i ≤ q }) => q - i.val) ⟨i, i1⟩) [.top, .top, .top, .ptr 0 0, AV.fn 27 [] [.ptr 0 0], .top, .top, .top, .sint .i64 (P (↑i : Int).toNat), .top, .top, .top, .top, .top, .top, .top, .top, .top, .top, .top, .top, .top, .top, .top, .top, .top, .top, .top, .top, .top, .top, .top, .top, .top, .top, .top, .top, .top, .top, .top, .top, .top, .top, .top, .top, .top, .top, .top, .top, .top, .top, .top, .top, .top, .top, .top, .top, .top, .top, .top, .top, .top, .top, .top, .top, .top, .top, .top, .top, .top, .top, .top, .top, .top, .top, .top, .top, .top, .top, .top, .top, .top, .top, .top, .data 1 q fun (i : Nat) => [.sint .i64 (P i)], .sint .i64 (↑q : Int), .sint .i64 ((↑i : Int) + 1), .bool true, AV.dptr [.sint .i64 (P (↑i : Int).toNat)], .sint .i64 (P (↑i : Int).toNat), AV.fn 27 [] [.ptr 0 0], .sint .i64 (P (↑i : Int).toNat), .sint .i64 (P (↑i : Int).toNat + 1), .sint .u64 (P (↑i : Int).toNat + 1), .tuple [], .sint .i64 ((↑i : Int) + 1), .top]) [0, 4] ([(some (Blk.cells 0 none [.gsl 4 (47 + i + 1)]), none), (some (Blk.seq 4 1 (47 + i + 1) (glue (47 + i) (rowT s q P) fun (i_1 : Nat) => List.take 1 (List.drop (i_1 * 1) [.sint .u8 ((P (↑i : Int).toNat + 1) % 256)]))), some (1, 47 + i + 1, glue (47 + i) (rowT s q P) fun (i_1 : Nat) => List.take 1 (List.drop (i_1 * 1) [.sint .u8 ((P (↑i : Int).toNat + 1) % 256)])))]))))))))) (.stop (Hd.leaf (.gsl 1 (47 + i))) [1] ([(some (Blk.seq 1 1 (47 + i) (rowT s q P)), some (1, 47 + i, rowT s q P))]))) (by kernel_rfl) ?_
   refine hold_forkD (fun h2 => ?_) (fun h2 => ?_)
   ·
    refine hl (bc fun h3 => by omega) ?_
    refine hl (bc fun h3 => by (have hp := m4 (i : Int).toNat (by omega); omega)) ?_
    refine hl (bc fun h3 => by (have hp := m4 (i : Int).toNat (by omega); omega)) ?_
    refine hzr (fun h3 => by (have hp := m4 (i : Int).toNat (by omega); omega)) ?_
    refine hl (bc fun h3 => by exact h3 ⟨by omega, fun i hi => by obtain rfl : i = 0 := (by omega); exact ⟨rfl, rfl⟩⟩) ?_
    refine hl (bc fun h3 => by omega) ?_
    refine hl (bc fun h3 => by omega) ?_
    refine hold_stop (fun hd hb => ?_)
    refine ok_again hd [some 0, some 4] ⟨i + 1, by omega⟩ (by show q - (i + 1) < q - i; omega) (fits_cs2 hb (by decide) (by simp [tpS, ints, fitsA, fitA, nf] <;> omega) (by simp [fitsA, fitA, nf] <;> omega) ⟨by show 47 + (i + 1) ≤ _; omega, rowT_glue s q P i rfl⟩)
   refine hold_stop (fun hd hb => ?_)
   exact ok_leafG hd hb (y := .gsl 0 (47 + q)) (by simp [fitA, fitsA, nf]; omega) (by omega) (fun i hi => ⟨rfl, rfl⟩) (.inr ⟨my, rfl, rfl⟩)
  refine ok_sk (.stop []) (S := .stop (Hd.leaf .nilSlice) [] ([])) (by kernel_rfl) ?_
  refine hold_stop (fun hd hb => ?_)
  exact ok_leaf0 hd rfl (.inl ⟨rfl, rfl, my⟩)
end Go.Proofs.YtkebdfbdneggkaaGreat
namespace Go.Proofs.YtkebdfbdneggkaaGreat
open Go Go.RowKit Sv
set_option linter.unusedVariables false
set_option maxRecDepth 100000
set_option maxHeartbeats 0
def by8 (y : Nat → Nat) (i : Nat) : List AV := [.sint .u8 ((y i % 256 : Nat) : Int)]
def b8 (y : Nat → Nat) (i : Nat) : Int := ((y i % 256 : Nat) : Int)
def n1 (y : Nat → Nat) : Int := 0 + b8 y 0
def n2 (y : Nat → Nat) : Int := (0 + b8 y 0) * 256 + b8 y 1
def n4 (y : Nat → Nat) : Int := ((((0 + b8 y 0) * 256 + b8 y 1) * 256 + b8 y 2) * 256 + b8 y 3)
def n8 (y : Nat → Nat) : Int := ((((((((0 + b8 y 0) * 256 + b8 y 1) * 256 + b8 y 2) * 256 + b8 y 3) * 256 + b8 y 4) * 256 + b8 y 5) * 256 + b8 y 6) * 256 + b8 y 7)
theorem b8_bd (y : Nat → Nat) (i : Nat) : 0 ≤ b8 y i ∧ b8 y i < 256 := by unfold b8; omega
theorem n1_bd (y : Nat → Nat) : 0 ≤ n1 y ∧ n1 y ≤ 255 := by
  have h0 := b8_bd y 0
  unfold n1
  omega
theorem n2_bd (y : Nat → Nat) : 0 ≤ n2 y ∧ n2 y ≤ 65535 := by
  have h0 := b8_bd y 0
  have h1 := b8_bd y 1
  unfold n2
  omega
theorem n4_bd (y : Nat → Nat) : 0 ≤ n4 y ∧ n4 y ≤ 4294967295 := by
  have h0 := b8_bd y 0
  have h1 := b8_bd y 1
  have h2 := b8_bd y 2
  have h3 := b8_bd y 3
  unfold n4
  omega
theorem n8_bd (y : Nat → Nat) : 0 ≤ n8 y ∧ n8 y ≤ 18446744073709551615 := by
  have h0 := b8_bd y 0
  have h1 := b8_bd y 1
  have h2 := b8_bd y 2
  have h3 := b8_bd y 3
  have h4 := b8_bd y 4
  have h5 := b8_bd y 5
  have h6 := b8_bd y 6
  have h7 := b8_bd y 7
  unfold n8
  omega
def sh (y : Nat → Nat) (k i : Nat) : Nat := y (k + i)
theorem otk1 (n : Nat) (y : Nat → Nat) (p : Int) (hn : n ≤ 5000) (hp : 0 ≤ p ∧ p ≤ n) : Runs Tryz.prog 32 [.data 1 n (by8 y), .sint .i64 p, .int .i64 1] fun x G => G = [] ∧ ((p + 1 ≤ n ∧ x = .tuple [.sint .u64 (n1 (sh y p.toNat)), .sint .i64 (p + 1), .int .i64 0]) ∨ ((n : Int) < p + 1 ∧ x = .tuple [.int .u64 0, .int .i64 0, .int .i64 5])) := by
  refine runs_treeF plain mixed (fun _ => false) (fun _ => false) 60 ?_
  refine ok_sk (.r (.r (.l (.both (.stop []) (.l (.l (.l (.l (.l (.l (.r (.l (.stop []))))))))))))) (S := .right (decide (p < 0)) (.right (decide ((↑n : Int) < p)) (.left (decide ((-9223372036854775808 : Int) ≤ (↑n : Int) - p ∧ (↑n : Int) - p ≤ 9223372036854775807)) (.fork (decide ((↑n : Int) - p < 1)) (.stop (Hd.leaf (.tuple [.int .u64 (0 : Int), .int .i64 (0 : Int), .int .i64 (5 : Int)])) [] ([])) (.left (decide ((-9223372036854775808 : Int) ≤ p + 1 ∧ p + 1 ≤ 9223372036854775807)) (.left (decide (0 ≤ p ∧ p ≤ p + 1 ∧ p + 1 ≤ (↑n : Int))) (.left (decide (0 < (↑((p + 1).toNat - p.toNat) : Int))) (.left (decide ((0 : Int) ≤ 0 ∧ 0 < (p + 1).toNat - p.toNat)) (.left (decide (0 ≤ (↑(y (p.toNat + 0) % 256) : Int) ∧ (↑(y (p.toNat + 0) % 256) : Int) ≤ 18446744073709551615)) (.left (decide ((0 : Int) ≤ 0 ∧ (0 : Int) = 0 ∧ (0 : Int) ≤ 18446744073709551360 ∧ 0 ≤ (↑(y (p.toNat + 0) % 256) : Int) ∧ (↑(y (p.toNat + 0) % 256) : Int) < 256)) (.right (decide (1 < (↑((p + 1).toNat - p.toNat) : Int))) (.left (decide ((-9223372036854775808 : Int) ≤ p + 1 ∧ p + 1 ≤ 9223372036854775807)) (.stop (Hd.leaf (.tuple [.sint .u64 ((0 : Int) + (↑(y (p.toNat + 0) % 256) : Int)), .sint .i64 (p + 1), .int .i64 (0 : Int)])) [] ([])))))))))))))) (by kernel_rfl) ?_
  refine hzr (fun h0 => by omega) ?_
  refine hzr (fun h0 => by omega) ?_
  refine hl (bc fun h0 => by omega) ?_
  refine hold_forkD (fun h0 => ?_) (fun h0 => ?_)
  ·
   refine hold_stop (fun hd hb => ?_)
   exact ok_leaf0 hd rfl ⟨rfl, .inr ⟨by omega, rfl⟩⟩
  refine hl (bc fun h1 => by omega) ?_
  refine hl (bc fun h1 => by omega) ?_
  refine hl (bc fun h1 => by omega) ?_
  refine hl (bc fun h1 => by omega) ?_
  refine hl (bc fun h1 => by omega) ?_
  refine hl (bc fun h1 => by omega) ?_
  refine hzr (fun h1 => by omega) ?_
  refine hl (bc fun h1 => by omega) ?_
  refine hold_stop (fun hd hb => ?_)
  exact ok_leaf0 hd rfl ⟨rfl, .inl ⟨by omega, rfl⟩⟩
theorem otk2 (n : Nat) (y : Nat → Nat) (p : Int) (hn : n ≤ 5000) (hp : 0 ≤ p ∧ p ≤ n) : Runs Tryz.prog 32 [.data 1 n (by8 y), .sint .i64 p, .int .i64 2] fun x G => G = [] ∧ ((p + 2 ≤ n ∧ x = .tuple [.sint .u64 (n2 (sh y p.toNat)), .sint .i64 (p + 2), .int .i64 0]) ∨ ((n : Int) < p + 2 ∧ x = .tuple [.int .u64 0, .int .i64 0, .int .i64 5])) := by
  refine runs_treeF plain mixed (fun _ => false) (fun _ => false) 60 ?_
  refine ok_sk (.r (.r (.l (.both (.stop []) (.l (.l (.l (.l (.l (.l (.l (.l (.l (.l (.l (.r (.l (.stop [])))))))))))))))))) (S := .right (decide (p < 0)) (.right (decide ((↑n : Int) < p)) (.left (decide ((-9223372036854775808 : Int) ≤ (↑n : Int) - p ∧ (↑n : Int) - p ≤ 9223372036854775807)) (.fork (decide ((↑n : Int) - p < 2)) (.stop (Hd.leaf (.tuple [.int .u64 (0 : Int), .int .i64 (0 : Int), .int .i64 (5 : Int)])) [] ([])) (.left (decide ((-9223372036854775808 : Int) ≤ p + 2 ∧ p + 2 ≤ 9223372036854775807)) (.left (decide (0 ≤ p ∧ p ≤ p + 2 ∧ p + 2 ≤ (↑n : Int))) (.left (decide (0 < (↑((p + 2).toNat - p.toNat) : Int))) (.left (decide ((0 : Int) ≤ 0 ∧ 0 < (p + 2).toNat - p.toNat)) (.left (decide (0 ≤ (↑(y (p.toNat + 0) % 256) : Int) ∧ (↑(y (p.toNat + 0) % 256) : Int) ≤ 18446744073709551615)) (.left (decide ((0 : Int) ≤ 0 ∧ (0 : Int) = 0 ∧ (0 : Int) ≤ 18446744073709551360 ∧ 0 ≤ (↑(y (p.toNat + 0) % 256) : Int) ∧ (↑(y (p.toNat + 0) % 256) : Int) < 256)) (.left (decide (1 < (↑((p + 2).toNat - p.toNat) : Int))) (.left (decide ((0 : Int) ≤ 1 ∧ 1 < (p + 2).toNat - p.toNat)) (.left (decide ((0 : Int) ≤ ((0 : Int) + (↑(y (p.toNat + 0) % 256) : Int)) * 256 ∧ ((0 : Int) + (↑(y (p.toNat + 0) % 256) : Int)) * 256 ≤ 18446744073709551615)) (.left (decide (0 ≤ (↑(y (p.toNat + 1) % 256) : Int) ∧ (↑(y (p.toNat + 1) % 256) : Int) ≤ 18446744073709551615)) (.left (decide ((0 : Int) ≤ ((0 : Int) + (↑(y (p.toNat + 0) % 256) : Int)) * 256 ∧ ((0 : Int) + (↑(y (p.toNat + 0) % 256) : Int)) * 256 % 256 = 0 ∧ ((0 : Int) + (↑(y (p.toNat + 0) % 256) : Int)) * 256 ≤ 18446744073709551360 ∧ 0 ≤ (↑(y (p.toNat + 1) % 256) : Int) ∧ (↑(y (p.toNat + 1) % 256) : Int) < 256)) (.right (decide (2 < (↑((p + 2).toNat - p.toNat) : Int))) (.left (decide ((-9223372036854775808 : Int) ≤ p + 2 ∧ p + 2 ≤ 9223372036854775807)) (.stop (Hd.leaf (.tuple [.sint .u64 (((0 : Int) + (↑(y (p.toNat + 0) % 256) : Int)) * 256 + (↑(y (p.toNat + 1) % 256) : Int)), .sint .i64 (p + 2), .int .i64 (0 : Int)])) [] ([]))))))))))))))))))) (by kernel_rfl) ?_
  refine hzr (fun h0 => by omega) ?_
  refine hzr (fun h0 => by omega) ?_
  refine hl (bc fun h0 => by omega) ?_
  refine hold_forkD (fun h0 => ?_) (fun h0 => ?_)
  ·
   refine hold_stop (fun hd hb => ?_)
   exact ok_leaf0 hd rfl ⟨rfl, .inr ⟨by omega, rfl⟩⟩
  refine hl (bc fun h1 => by omega) ?_
  refine hl (bc fun h1 => by omega) ?_
  refine hl (bc fun h1 => by omega) ?_
  refine hl (bc fun h1 => by omega) ?_
  refine hl (bc fun h1 => by omega) ?_
  refine hl (bc fun h1 => by omega) ?_
  refine hl (bc fun h1 => by omega) ?_
  refine hl (bc fun h1 => by omega) ?_
  refine hl (bc fun h1 => by omega) ?_
  refine hl (bc fun h1 => by omega) ?_
  refine hl (bc fun h1 => by omega) ?_
  refine hzr (fun h1 => by omega) ?_
  refine hl (bc fun h1 => by omega) ?_
  refine hold_stop (fun hd hb => ?_)
  exact ok_leaf0 hd rfl ⟨rfl, .inl ⟨by omega, rfl⟩⟩
theorem otk4 (n : Nat) (y : Nat → Nat) (p : Int) (hn : n ≤ 5000) (hp : 0 ≤ p ∧ p ≤ n) : Runs Tryz.prog 32 [.data 1 n (by8 y), .sint .i64 p, .int .i64 4] fun x G => G = [] ∧ ((p + 4 ≤ n ∧ x = .tuple [.sint .u64 (n4 (sh y p.toNat)), .sint .i64 (p + 4), .int .i64 0]) ∨ ((n : Int) < p + 4 ∧ x = .tuple [.int .u64 0, .int .i64 0, .int .i64 5])) := by
  refine runs_treeF plain mixed (fun _ => false) (fun _ => false) 60 ?_
  refine ok_sk (.r (.r (.l (.both (.stop []) (.l (.l (.l (.l (.l (.l (.l (.l (.l (.l (.l (.l (.l (.l (.l (.l (.l (.l (.l (.l (.l (.r (.l (.stop [])))))))))))))))))))))))))))) (S := .right (decide (p < 0)) (.right (decide ((↑n : Int) < p)) (.left (decide ((-9223372036854775808 : Int) ≤ (↑n : Int) - p ∧ (↑n : Int) - p ≤ 9223372036854775807)) (.fork (decide ((↑n : Int) - p < 4)) (.stop (Hd.leaf (.tuple [.int .u64 (0 : Int), .int .i64 (0 : Int), .int .i64 (5 : Int)])) [] ([])) (.left (decide ((-9223372036854775808 : Int) ≤ p + 4 ∧ p + 4 ≤ 9223372036854775807)) (.left (decide (0 ≤ p ∧ p ≤ p + 4 ∧ p + 4 ≤ (↑n : Int))) (.left (decide (0 < (↑((p + 4).toNat - p.toNat) : Int))) (.left (decide ((0 : Int) ≤ 0 ∧ 0 < (p + 4).toNat - p.toNat)) (.left (decide (0 ≤ (↑(y (p.toNat + 0) % 256) : Int) ∧ (↑(y (p.toNat + 0) % 256) : Int) ≤ 18446744073709551615)) (.left (decide ((0 : Int) ≤ 0 ∧ (0 : Int) = 0 ∧ (0 : Int) ≤ 18446744073709551360 ∧ 0 ≤ (↑(y (p.toNat + 0) % 256) : Int) ∧ (↑(y (p.toNat + 0) % 256) : Int) < 256)) (.left (decide (1 < (↑((p + 4).toNat - p.toNat) : Int))) (.left (decide ((0 : Int) ≤ 1 ∧ 1 < (p + 4).toNat - p.toNat)) (.left (decide ((0 : Int) ≤ ((0 : Int) + (↑(y (p.toNat + 0) % 256) : Int)) * 256 ∧ ((0 : Int) + (↑(y (p.toNat + 0) % 256) : Int)) * 256 ≤ 18446744073709551615)) (.left (decide (0 ≤ (↑(y (p.toNat + 1) % 256) : Int) ∧ (↑(y (p.toNat + 1) % 256) : Int) ≤ 18446744073709551615)) (.left (decide ((0 : Int) ≤ ((0 : Int) + (↑(y (p.toNat + 0) % 256) : Int)) * 256 ∧ ((0 : Int) + (↑(y (p.toNat + 0) % 256) : Int)) * 256 % 256 = 0 ∧ ((0 : Int) + (↑(y (p.toNat + 0) % 256) : Int)) * 256 ≤ 18446744073709551360 ∧ 0 ≤ (↑(y (p.toNat + 1) % 256) : Int) ∧ (↑(y (p.toNat + 1) % 256) : Int) < 256)) (.left (decide (2 < (↑((p + 4).toNat - p.toNat) : Int))) (.left (decide ((0 : Int) ≤ 2 ∧ 2 < (p + 4).toNat - p.toNat)) (.left (decide ((0 : Int) ≤ (((0 : Int) + (↑(y (p.toNat + 0) % 256) : Int)) * 256 + (↑(y (p.toNat + 1) % 256) : Int)) * 256 ∧ (((0 : Int) + (↑(y (p.toNat + 0) % 256) : Int)) * 256 + (↑(y (p.toNat + 1) % 256) : Int)) * 256 ≤ 18446744073709551615)) (.left (decide (0 ≤ (↑(y (p.toNat + 2) % 256) : Int) ∧ (↑(y (p.toNat + 2) % 256) : Int) ≤ 18446744073709551615)) (.left (decide ((0 : Int) ≤ (((0 : Int) + (↑(y (p.toNat + 0) % 256) : Int)) * 256 + (↑(y (p.toNat + 1) % 256) : Int)) * 256 ∧ (((0 : Int) + (↑(y (p.toNat + 0) % 256) : Int)) * 256 + (↑(y (p.toNat + 1) % 256) : Int)) * 256 % 256 = 0 ∧ (((0 : Int) + (↑(y (p.toNat + 0) % 256) : Int)) * 256 + (↑(y (p.toNat + 1) % 256) : Int)) * 256 ≤ 18446744073709551360 ∧ 0 ≤ (↑(y (p.toNat + 2) % 256) : Int) ∧ (↑(y (p.toNat + 2) % 256) : Int) < 256)) (.left (decide (3 < (↑((p + 4).toNat - p.toNat) : Int))) (.left (decide ((0 : Int) ≤ 3 ∧ 3 < (p + 4).toNat - p.toNat)) (.left (decide ((0 : Int) ≤ ((((0 : Int) + (↑(y (p.toNat + 0) % 256) : Int)) * 256 + (↑(y (p.toNat + 1) % 256) : Int)) * 256 + (↑(y (p.toNat + 2) % 256) : Int)) * 256 ∧ ((((0 : Int) + (↑(y (p.toNat + 0) % 256) : Int)) * 256 + (↑(y (p.toNat + 1) % 256) : Int)) * 256 + (↑(y (p.toNat + 2) % 256) : Int)) * 256 ≤ 18446744073709551615)) (.left (decide (0 ≤ (↑(y (p.toNat + 3) % 256) : Int) ∧ (↑(y (p.toNat + 3) % 256) : Int) ≤ 18446744073709551615)) (.left (decide ((0 : Int) ≤ ((((0 : Int) + (↑(y (p.toNat + 0) % 256) : Int)) * 256 + (↑(y (p.toNat + 1) % 256) : Int)) * 256 + (↑(y (p.toNat + 2) % 256) : Int)) * 256 ∧ ((((0 : Int) + (↑(y (p.toNat + 0) % 256) : Int)) * 256 + (↑(y (p.toNat + 1) % 256) : Int)) * 256 + (↑(y (p.toNat + 2) % 256) : Int)) * 256 % 256 = 0 ∧ ((((0 : Int) + (↑(y (p.toNat + 0) % 256) : Int)) * 256 + (↑(y (p.toNat + 1) % 256) : Int)) * 256 + (↑(y (p.toNat + 2) % 256) : Int)) * 256 ≤ 18446744073709551360 ∧ 0 ≤ (↑(y (p.toNat + 3) % 256) : Int) ∧ (↑(y (p.toNat + 3) % 256) : Int) < 256)) (.right (decide (4 < (↑((p + 4).toNat - p.toNat) : Int))) (.left (decide ((-9223372036854775808 : Int) ≤ p + 4 ∧ p + 4 ≤ 9223372036854775807)) (.stop (Hd.leaf (.tuple [.sint .u64 (((((0 : Int) + (↑(y (p.toNat + 0) % 256) : Int)) * 256 + (↑(y (p.toNat + 1) % 256) : Int)) * 256 + (↑(y (p.toNat + 2) % 256) : Int)) * 256 + (↑(y (p.toNat + 3) % 256) : Int)), .sint .i64 (p + 4), .int .i64 (0 : Int)])) [] ([]))))))))))))))))))))))))))))) (by kernel_rfl) ?_
  refine hzr (fun h0 => by omega) ?_
  refine hzr (fun h0 => by omega) ?_
  refine hl (bc fun h0 => by omega) ?_
  refine hold_forkD (fun h0 => ?_) (fun h0 => ?_)
  ·
   refine hold_stop (fun hd hb => ?_)
   exact ok_leaf0 hd rfl ⟨rfl, .inr ⟨by omega, rfl⟩⟩
  refine hl (bc fun h1 => by omega) ?_
  refine hl (bc fun h1 => by omega) ?_
  refine hl (bc fun h1 => by omega) ?_
  refine hl (bc fun h1 => by omega) ?_
  refine hl (bc fun h1 => by omega) ?_
  refine hl (bc fun h1 => by omega) ?_
  refine hl (bc fun h1 => by omega) ?_
  refine hl (bc fun h1 => by omega) ?_
  refine hl (bc fun h1 => by omega) ?_
  refine hl (bc fun h1 => by omega) ?_
  refine hl (bc fun h1 => by omega) ?_
  refine hl (bc fun h1 => by omega) ?_
  refine hl (bc fun h1 => by omega) ?_
  refine hl (bc fun h1 => by omega) ?_
  refine hl (bc fun h1 => by omega) ?_
  refine hl (bc fun h1 => by omega) ?_
  refine hl (bc fun h1 => by omega) ?_
  refine hl (bc fun h1 => by omega) ?_
  refine hl (bc fun h1 => by omega) ?_
  refine hl (bc fun h1 => by omega) ?_
  refine hl (bc fun h1 => by omega) ?_
  refine hzr (fun h1 => by omega) ?_
  refine hl (bc fun h1 => by omega) ?_
  refine hold_stop (fun hd hb => ?_)
  exact ok_leaf0 hd rfl ⟨rfl, .inl ⟨by omega, rfl⟩⟩
theorem otk8 (n : Nat) (y : Nat → Nat) (p : Int) (hn : n ≤ 5000) (hp : 0 ≤ p ∧ p ≤ n) : Runs Tryz.prog 32 [.data 1 n (by8 y), .sint .i64 p, .int .i64 8] fun x G => G = [] ∧ ((p + 8 ≤ n ∧ x = .tuple [.sint .u64 (n8 (sh y p.toNat)), .sint .i64 (p + 8), .int .i64 0]) ∨ ((n : Int) < p + 8 ∧ x = .tuple [.int .u64 0, .int .i64 0, .int .i64 5])) := by
  refine runs_treeF plain mixed (fun _ => false) (fun _ => false) 60 ?_
  refine ok_sk (.r (.r (.l (.both (.stop []) (.l (.l (.l (.l (.l (.l (.l (.l (.l (.l (.l (.l (.l (.l (.l (.l (.l (.l (.l (.l (.l (.l (.l (.l (.l (.l (.l (.l (.l (.l (.l (.l (.l (.l (.l (.l (.l (.l (.l (.l (.l (.r (.l (.stop [])))))))))))))))))))))))))))))))))))))))))))))))) (S := .right (decide (p < 0)) (.right (decide ((↑n : Int) < p)) (.left (decide ((-9223372036854775808 : Int) ≤ (↑n : Int) - p ∧ (↑n : Int) - p ≤ 9223372036854775807)) (.fork (decide ((↑n : Int) - p < 8)) (.stop (Hd.leaf (.tuple [.int .u64 (0 : Int), .int .i64 (0 : Int), .int .i64 (5 : Int)])) [] ([])) (.left (decide ((-9223372036854775808 : Int) ≤ p + 8 ∧ p + 8 ≤ 9223372036854775807)) (.left (decide (0 ≤ p ∧ p ≤ p + 8 ∧ p + 8 ≤ (↑n : Int))) (.left (decide (0 < (↑((p + 8).toNat - p.toNat) : Int))) (.left (decide ((0 : Int) ≤ 0 ∧ 0 < (p + 8).toNat - p.toNat)) (.left (decide (0 ≤ (↑(y (p.toNat + 0) % 256) : Int) ∧ (↑(y (p.toNat + 0) % 256) : Int) ≤ 18446744073709551615)) (.left (decide ((0 : Int) ≤ 0 ∧ (0 : Int) = 0 ∧ (0 : Int) ≤ 18446744073709551360 ∧ 0 ≤ (↑(y (p.toNat + 0) % 256) : Int) ∧ (↑(y (p.toNat + 0) % 256) : Int) < 256)) (.left (decide (1 < (↑((p + 8).toNat - p.toNat) : Int))) (.left (decide ((0 : Int) ≤ 1 ∧ 1 < (p + 8).toNat - p.toNat)) (.left (decide ((0 : Int) ≤ ((0 : Int) + (↑(y (p.toNat + 0) % 256) : Int)) * 256 ∧ ((0 : Int) + (↑(y (p.toNat + 0) % 256) : Int)) * 256 ≤ 18446744073709551615)) (.left (decide (0 ≤ (↑(y (p.toNat + 1) % 256) : Int) ∧ (↑(y (p.toNat + 1) % 256) : Int) ≤ 18446744073709551615)) (.left (decide ((0 : Int) ≤ ((0 : Int) + (↑(y (p.toNat + 0) % 256) : Int)) * 256 ∧ ((0 : Int) + (↑(y (p.toNat + 0) % 256) : Int)) * 256 % 256 = 0 ∧ ((0 : Int) + (↑(y (p.toNat + 0) % 256) : Int)) * 256 ≤ 18446744073709551360 ∧ 0 ≤ (↑(y (p.toNat + 1) % 256) : Int) ∧ (↑(y (p.toNat + 1) % 256) : Int) < 256)) (.left (decide (2 < (↑((p + 8).toNat - p.toNat) : Int))) (.left (decide ((0 : Int) ≤ 2 ∧ 2 < (p + 8).toNat - p.toNat)) (.left (decide ((0 : Int) ≤ (((0 : Int) + (↑(y (p.toNat + 0) % 256) : Int)) * 256 + (↑(y (p.toNat + 1) % 256) : Int)) * 256 ∧ (((0 : Int) + (↑(y (p.toNat + 0) % 256) : Int)) * 256 + (↑(y (p.toNat + 1) % 256) : Int)) * 256 ≤ 18446744073709551615)) (.left (decide (0 ≤ (↑(y (p.toNat + 2) % 256) : Int) ∧ (↑(y (p.toNat + 2) % 256) : Int) ≤ 18446744073709551615)) (.left (decide ((0 : Int) ≤ (((0 : Int) + (↑(y (p.toNat + 0) % 256) : Int)) * 256 + (↑(y (p.toNat + 1) % 256) : Int)) * 256 ∧ (((0 : Int) + (↑(y (p.toNat + 0) % 256) : Int)) * 256 + (↑(y (p.toNat + 1) % 256) : Int)) * 256 % 256 = 0 ∧ (((0 : Int) + (↑(y (p.toNat + 0) % 256) : Int)) * 256 + (↑(y (p.toNat + 1) % 256) : Int)) * 256 ≤ 18446744073709551360 ∧ 0 ≤ (↑(y (p.toNat + 2) % 256) : Int) ∧ (↑(y (p.toNat + 2) % 256) : Int) < 256)) (.left (decide (3 < (↑((p + 8).toNat - p.toNat) : Int))) (.left (decide ((0 : Int) ≤ 3 ∧ 3 < (p + 8).toNat - p.toNat)) (.left (decide ((0 : Int) ≤ ((((0 : Int) + (↑(y (p.toNat + 0) % 256) : Int)) * 256 + (↑(y (p.toNat + 1) % 256) : Int)) * 256 + (↑(y (p.toNat + 2) % 256) : Int)) * 256 ∧ ((((0 : Int) + (↑(y (p.toNat + 0) % 256) : Int)) * 256 + (↑(y (p.toNat + 1) % 256) : Int)) * 256 + (↑(y (p.toNat + 2) % 256) : Int)) * 256 ≤ 18446744073709551615)) (.left (decide (0 ≤ (↑(y (p.toNat + 3) % 256) : Int) ∧ (↑(y (p.toNat + 3) % 256) : Int) ≤ 18446744073709551615)) (.left (decide ((0 : Int) ≤ ((((0 : Int) + (↑(y (p.toNat + 0) % 256) : Int)) * 256 + (↑(y (p.toNat + 1) % 256) : Int)) * 256 + (↑(y (p.toNat + 2) % 256) : Int)) * 256 ∧ ((((0 : Int) + (↑(y (p.toNat + 0) % 256) : Int)) * 256 + (↑(y (p.toNat + 1) % 256) : Int)) * 256 + (↑(y (p.toNat + 2) % 256) : Int)) * 256 % 256 = 0 ∧ ((((0 : Int) + (↑(y (p.toNat + 0) % 256) : Int)) * 256 + (↑(y (p.toNat + 1) % 256) : Int)) * 256 + (↑(y (p.toNat + 2) % 256) : Int)) * 256 ≤ 18446744073709551360 ∧ 0 ≤ (↑(y (p.toNat + 3) % 256) : Int) ∧ (↑(y (p.toNat + 3) % 256) : Int) < 256)) (.left (decide (4 < (↑((p + 8).toNat - p.toNat) : Int))) (.left (decide ((0 : Int) ≤ 4 ∧ 4 < (p + 8).toNat - p.toNat)) (.left (decide ((0 : Int) ≤ (((((0 : Int) + (↑(y (p.toNat + 0) % 256) : Int)) * 256 + (↑(y (p.toNat + 1) % 256) : Int)) * 256 + (↑(y (p.toNat + 2) % 256) : Int)) * 256 + (↑(y (p.toNat + 3) % 256) : Int)) * 256 ∧ (((((0 : Int) + (↑(y (p.toNat + 0) % 256) : Int)) * 256 + (↑(y (p.toNat + 1) % 256) : Int)) * 256 + (↑(y (p.toNat + 2) % 256) : Int)) * 256 + (↑(y (p.toNat + 3) % 256) : Int)) * 256 ≤ 18446744073709551615)) (.left (decide (0 ≤ (↑(y (p.toNat + 4) % 256) : Int) ∧ (↑(y (p.toNat + 4) % 256) : Int) ≤ 18446744073709551615)) (.left (decide ((0 : Int) ≤ (((((0 : Int) + (↑(y (p.toNat + 0) % 256) : Int)) * 256 + (↑(y (p.toNat + 1) % 256) : Int)) * 256 + (↑(y (p.toNat + 2) % 256) : Int)) * 256 + (↑(y (p.toNat + 3) % 256) : Int)) * 256 ∧ (((((0 : Int) + (↑(y (p.toNat + 0) % 256) : Int)) * 256 + (↑(y (p.toNat + 1) % 256) : Int)) * 256 + (↑(y (p.toNat + 2) % 256) : Int)) * 256 + (↑(y (p.toNat + 3) % 256) : Int)) * 256 % 256 = 0 ∧ (((((0 : Int) + (↑(y (p.toNat + 0) % 256) : Int)) * 256 + (↑(y (p.toNat + 1) % 256) : Int)) * 256 + (↑(y (p.toNat + 2) % 256) : Int)) * 256 + (↑(y (p.toNat + 3) % 256) : Int)) * 256 ≤ 18446744073709551360 ∧ 0 ≤ (↑(y (p.toNat + 4) % 256) : Int) ∧ (↑(y (p.toNat + 4) % 256) : Int) < 256)) (.left (decide (5 < (↑((p + 8).toNat - p.toNat) : Int))) (.left (decide ((0 : Int) ≤ 5 ∧ 5 < (p + 8).toNat - p.toNat)) (.left (decide ((0 : Int) ≤ ((((((0 : Int) + (↑(y (p.toNat + 0) % 256) : Int)) * 256 + (↑(y (p.toNat + 1) % 256) : Int)) * 256 + (↑(y (p.toNat + 2) % 256) : Int)) * 256 + (↑(y (p.toNat + 3) % 256) : Int)) * 256 + (↑(y (p.toNat + 4) % 256) : Int)) * 256 ∧ ((((((0 : Int) + (↑(y (p.toNat + 0) % 256) : Int)) * 256 + (↑(y (p.toNat + 1) % 256) : Int)) * 256 + (↑(y (p.toNat + 2) % 256) : Int)) * 256 + (↑(y (p.toNat + 3) % 256) : Int)) * 256 + (↑(y (p.toNat + 4) % 256) : Int)) * 256 ≤ 18446744073709551615)) (.left (decide (0 ≤ (↑(y (p.toNat + 5) % 256) : Int) ∧ (↑(y (p.toNat + 5) % 256) : Int) ≤ 18446744073709551615)) (.left (decide ((0 : Int) ≤ ((((((0 : Int) + (↑(y (p.toNat + 0) % 256) : Int)) * 256 + (↑(y (p.toNat + 1) % 256) : Int)) * 256 + (↑(y (p.toNat + 2) % 256) : Int)) * 256 + (↑(y (p.toNat + 3) % 256) : Int)) * 256 + (↑(y (p.toNat + 4) % 256) : Int)) * 256 ∧ ((((((0 : Int) + (↑(y (p.toNat + 0) % 256) : Int)) * 256 + (↑(y (p.toNat + 1) % 256) : Int)) * 256 + (↑(y (p.toNat + 2) % 256) : Int)) * 256 + (↑(y (p.toNat + 3) % 256) : Int)) * 256 + (↑(y (p.toNat + 4) % 256) : Int)) * 256 % 256 = 0 ∧ ((((((0 : Int) + (↑(y (p.toNat + 0) % 256) : Int)) * 256 + (↑(y (p.toNat + 1) % 256) : Int)) * 256 + (↑(y (p.toNat + 2) % 256) : Int)) * 256 + (↑(y (p.toNat + 3) % 256) : Int)) * 256 + (↑(y (p.toNat + 4) % 256) : Int)) * 256 ≤ 18446744073709551360 ∧ 0 ≤ (↑(y (p.toNat + 5) % 256) : Int) ∧ (↑(y (p.toNat + 5) % 256) : Int) < 256)) (.left (decide (6 < (↑((p + 8).toNat - p.toNat) : Int))) (.left (decide ((0 : Int) ≤ 6 ∧ 6 < (p + 8).toNat - p.toNat)) (.left (decide ((0 : Int) ≤ (((((((0 : Int) + (↑(y (p.toNat + 0) % 256) : Int)) * 256 + (↑(y (p.toNat + 1) % 256) : Int)) * 256 + (↑(y (p.toNat + 2) % 256) : Int)) * 256 + (↑(y (p.toNat + 3) % 256) : Int)) * 256 + (↑(y (p.toNat + 4) % 256) : Int)) * 256 + (↑(y (p.toNat + 5) % 256) : Int)) * 256 ∧ (((((((0 : Int) + (↑(y (p.toNat + 0) % 256) : Int)) * 256 + (↑(y (p.toNat + 1) % 256) : Int)) * 256 + (↑(y (p.toNat + 2) % 256) : Int)) * 256 + (↑(y (p.toNat + 3) % 256) : Int)) * 256 + (↑(y (p.toNat + 4) % 256) : Int)) * 256 + (↑(y (p.toNat + 5) % 256) : Int)) * 256 ≤ 18446744073709551615)) (.left (decide (0 ≤ (↑(y (p.toNat + 6) % 256) : Int) ∧ (↑(y (p.toNat + 6) % 256) : Int) ≤ 18446744073709551615)) (.left (decide ((0 : Int) ≤ (((((((0 : Int) + (↑(y (p.toNat + 0) % 256) : Int)) * 256 + (↑(y (p.toNat + 1) % 256) : Int)) * 256 + (↑(y (p.toNat + 2) % 256) : Int)) * 256 + (↑(y (p.toNat + 3) % 256) : Int)) * 256 + (↑(y (p.toNat + 4) % 256) : Int)) * 256 + (↑(y (p.toNat + 5) % 256) : Int)) * 256 ∧ (((((((0 : Int) + (↑(y (p.toNat + 0) % 256) : Int)) * 256 + (↑(y (p.toNat + 1) % 256) : Int)) * 256 + (↑(y (p.toNat + 2) % 256) : Int)) * 256 + (↑(y (p.toNat + 3) % 256) : Int)) * 256 + (↑(y (p.toNat + 4) % 256) : Int)) * 256 + (↑(y (p.toNat + 5) % 256) : Int)) * 256 % 256 = 0 ∧ (((((((0 : Int) + (↑(y (p.toNat + 0) % 256) : Int)) * 256 + (↑(y (p.toNat + 1) % 256) : Int)) * 256 + (↑(y (p.toNat + 2) % 256) : Int)) * 256 + (↑(y (p.toNat + 3) % 256) : Int)) * 256 + (↑(y (p.toNat + 4) % 256) : Int)) * 256 + (↑(y (p.toNat + 5) % 256) : Int)) * 256 ≤ 18446744073709551360 ∧ 0 ≤ (↑(y (p.toNat + 6) % 256) : Int) ∧ (↑(y (p.toNat + 6) % 256) : Int) < 256)) (.left (decide (7 < (↑((p + 8).toNat - p.toNat) : Int))) (.left (decide ((0 : Int) ≤ 7 ∧ 7 < (p + 8).toNat - p.toNat)) (.left (decide ((0 : Int) ≤ ((((((((0 : Int) + (↑(y (p.toNat + 0) % 256) : Int)) * 256 + (↑(y (p.toNat + 1) % 256) : Int)) * 256 + (↑(y (p.toNat + 2) % 256) : Int)) * 256 + (↑(y (p.toNat + 3) % 256) : Int)) * 256 + (↑(y (p.toNat + 4) % 256) : Int)) * 256 + (↑(y (p.toNat + 5) % 256) : Int)) * 256 + (↑(y (p.toNat + 6) % 256) : Int)) * 256 ∧ ((((((((0 : Int) + (↑(y (p.toNat + 0) % 256) : Int)) * 256 + (↑(y (p.toNat + 1) % 256) : Int)) * 256 + (↑(y (p.toNat + 2) % 256) : Int)) * 256 + (↑(y (p.toNat + 3) % 256) : Int)) * 256 + (↑(y (p.toNat + 4) % 256) : Int)) * 256 + (↑(y (p.toNat + 5) % 256) : Int)) * 256 + (↑(y (p.toNat + 6) % 256) : Int)) * 256 ≤ 18446744073709551615)) (.left (decide (0 ≤ (↑(y (p.toNat + 7) % 256) : Int) ∧ (↑(y (p.toNat + 7) % 256) : Int) ≤ 18446744073709551615)) (.left (decide ((0 : Int) ≤ ((((((((0 : Int) + (↑(y (p.toNat + 0) % 256) : Int)) * 256 + (↑(y (p.toNat + 1) % 256) : Int)) * 256 + (↑(y (p.toNat + 2) % 256) : Int)) * 256 + (↑(y (p.toNat + 3) % 256) : Int)) * 256 + (↑(y (p.toNat + 4) % 256) : Int)) * 256 + (↑(y (p.toNat + 5) % 256) : Int)) * 256 + (↑(y (p.toNat + 6) % 256) : Int)) * 256 ∧ ((((((((0 : Int) + (↑(y (p.toNat + 0) % 256) : Int)) * 256 + (↑(y (p.toNat + 1) % 256) : Int)) * 256 + (↑(y (p.toNat + 2) % 256) : Int)) * 256 + (↑(y (p.toNat + 3) % 256) : Int)) * 256 + (↑(y (p.toNat + 4) % 256) : Int)) * 256 + (↑(y (p.toNat + 5) % 256) : Int)) * 256 + (↑(y (p.toNat + 6) % 256) : Int)) * 256 % 256 = 0 ∧ ((((((((0 : Int) + (↑(y (p.toNat + 0) % 256) : Int)) * 256 + (↑(y (p.toNat + 1) % 256) : Int)) * 256 + (↑(y (p.toNat + 2) % 256) : Int)) * 256 + (↑(y (p.toNat + 3) % 256) : Int)) * 256 + (↑(y (p.toNat + 4) % 256) : Int)) * 256 + (↑(y (p.toNat + 5) % 256) : Int)) * 256 + (↑(y (p.toNat + 6) % 256) : Int)) * 256 ≤ 18446744073709551360 ∧ 0 ≤ (↑(y (p.toNat + 7) % 256) : Int) ∧ (↑(y (p.toNat + 7) % 256) : Int) < 256)) (.right (decide (8 < (↑((p + 8).toNat - p.toNat) : Int))) (.left (decide ((-9223372036854775808 : Int) ≤ p + 8 ∧ p + 8 ≤ 9223372036854775807)) (.stop (Hd.leaf (.tuple [.sint .u64 (((((((((0 : Int) + (↑(y (p.toNat + 0) % 256) : Int)) * 256 + (↑(y (p.toNat + 1) % 256) : Int)) * 256 + (↑(y (p.toNat + 2) % 256) : Int)) * 256 + (↑(y (p.toNat + 3) % 256) : Int)) * 256 + (↑(y (p.toNat + 4) % 256) : Int)) * 256 + (↑(y (p.toNat + 5) % 256) : Int)) * 256 + (↑(y (p.toNat + 6) % 256) : Int)) * 256 + (↑(y (p.toNat + 7) % 256) : Int)), .sint .i64 (p + 8), .int .i64 (0 : Int)])) [] ([]))))))))))))))))))))))))))))))))))))))))))))))))) (by kernel_rfl) ?_
  refine hzr (fun h0 => by omega) ?_
  refine hzr (fun h0 => by omega) ?_
  refine hl (bc fun h0 => by omega) ?_
  refine hold_forkD (fun h0 => ?_) (fun h0 => ?_)
  ·
   refine hold_stop (fun hd hb => ?_)
   exact ok_leaf0 hd rfl ⟨rfl, .inr ⟨by omega, rfl⟩⟩
  refine hl (bc fun h1 => by omega) ?_
  refine hl (bc fun h1 => by omega) ?_
  refine hl (bc fun h1 => by omega) ?_
  refine hl (bc fun h1 => by omega) ?_
  refine hl (bc fun h1 => by omega) ?_
  refine hl (bc fun h1 => by omega) ?_
  refine hl (bc fun h1 => by omega) ?_
  refine hl (bc fun h1 => by omega) ?_
  refine hl (bc fun h1 => by omega) ?_
  refine hl (bc fun h1 => by omega) ?_
  refine hl (bc fun h1 => by omega) ?_
  refine hl (bc fun h1 => by omega) ?_
  refine hl (bc fun h1 => by omega) ?_
  refine hl (bc fun h1 => by omega) ?_
  refine hl (bc fun h1 => by omega) ?_
  refine hl (bc fun h1 => by omega) ?_
  refine hl (bc fun h1 => by omega) ?_
  refine hl (bc fun h1 => by omega) ?_
  refine hl (bc fun h1 => by omega) ?_
  refine hl (bc fun h1 => by omega) ?_
  refine hl (bc fun h1 => by omega) ?_
  refine hl (bc fun h1 => by omega) ?_
  refine hl (bc fun h1 => by omega) ?_
  refine hl (bc fun h1 => by omega) ?_
  refine hl (bc fun h1 => by omega) ?_
  refine hl (bc fun h1 => by omega) ?_
  refine hl (bc fun h1 => by omega) ?_
  refine hl (bc fun h1 => by omega) ?_
  refine hl (bc fun h1 => by omega) ?_
  refine hl (bc fun h1 => by omega) ?_
  refine hl (bc fun h1 => by omega) ?_
  refine hl (bc fun h1 => by omega) ?_
  refine hl (bc fun h1 => by omega) ?_
  refine hl (bc fun h1 => by omega) ?_
  refine hl (bc fun h1 => by omega) ?_
  refine hl (bc fun h1 => by omega) ?_
  refine hl (bc fun h1 => by omega) ?_
  refine hl (bc fun h1 => by omega) ?_
  refine hl (bc fun h1 => by omega) ?_
  refine hl (bc fun h1 => by omega) ?_
  refine hl (bc fun h1 => by omega) ?_
  refine hzr (fun h1 => by omega) ?_
  refine hl (bc fun h1 => by omega) ?_
  refine hold_stop (fun hd hb => ?_)
  exact ok_leaf0 hd rfl ⟨rfl, .inl ⟨by omega, rfl⟩⟩
end Go.Proofs.YtkebdfbdneggkaaGreat
namespace Go.Proofs.YtkebdfbdneggkaaGreat
open Go Go.RowKit Sv
set_option linter.unusedVariables false
set_option linter.unusedSimpArgs false
set_option maxRecDepth 100000
set_option maxHeartbeats 0
section
variable {P : Program} {o lp : Nat → Bool} {n0 : Nat} {R : AV → List NewB → Prop} {t : T}
theorem look_three {H : AH} {i j k : Nat} {a b c : Option Blk × Option (Nat × Nat × (Nat → List AV))} (h : Sv.look H [i, j, k] = [a, b, c]) : H.tr.get i = a.1 ∧ H.tr.get j = b.1 ∧ H.tr.get k = c.1 := by
  have e : Sv.look H [i, j, k] = [(H.tr.get i, seqAt H i), (H.tr.get j, seqAt H j), (H.tr.get k, seqAt H k)] := rfl
  rw [e] at h
  simp only [List.cons.injEq, and_true] at h
  exact ⟨congrArg Prod.fst h.1, congrArg Prod.fst h.2.1, congrArg Prod.fst h.2.2⟩
theorem fits_three {H : AH} {j0 j1 j2 c0 c1 c2 : Nat} {g0 g1 g2 : Option Nat} {cs0 cs1 cs2 ds0 ds1 ds2 xs bs : List AV} {s0 s1 s2 : Option (Nat × Nat × (Nat → List AV))}
    (hb : Sv.look H [j0, j1, j2] = [(some (.cells c0 g0 cs0), s0), (some (.cells c1 g1 cs1), s1), (some (.cells c2 g2 cs2), s2)]) (hc : c0 ≠ c1 ∧ c0 ≠ c2 ∧ c1 ≠ c2) (hx : fitsA [some j0, some j1, some j2] bs xs) (h0 : fitsA [some j0, some j1, some j2] ds0 cs0) (h1 : fitsA [some j0, some j1, some j2] ds1 cs1) (h2 : fitsA [some j0, some j1, some j2] ds2 cs2) :
    Fits [some j0, some j1, some j2] xs H bs [.cells g0 ds0, .cells g1 ds1, .cells g2 ds2] := by
  obtain ⟨a0, a1, a2⟩ := look_three hb
  refine ⟨hx, ⟨⟨_, _, a0, h0⟩, ⟨_, _, a1, h1⟩, ⟨_, _, a2, h2⟩, trivial⟩, ?_⟩
  simp [AH.clsOf, a0, a1, a2, Blk.cls, hc.1, hc.2.1, hc.2.2]
theorem ok_callM3 {f j0 j1 j2 c0 c1 c2 o0 o1 o2 : Nat} {args bs : List AV} {g0 g1 g2 : Option Nat} {cs0 cs1 cs2 ds0 ds1 ds2 : List AV} {s0 s1 s2 : Option (Nat × Nat × (Nat → List AV))} {R' : AV → List NewB → Prop} (hd : t.hd = .call f args) (hr : RunsM P f [.cells g0 ds0, .cells g1 ds1, .cells g2 ds2] bs R')
    (hb : Sv.look t.heap [j0, j1, j2] = [(some (.cells c0 g0 cs0), s0), (some (.cells c1 g1 cs1), s1), (some (.cells c2 g2 cs2), s2)]) (hc : c0 ≠ c1 ∧ c0 ≠ c2 ∧ c1 ≠ c2) (hj : j0 ≠ j1 ∧ j0 ≠ j2 ∧ j1 ≠ j2) (ha : alone t.heap [j0, j1, j2] = true) (hx : fitsA [some j0, some j1, some j2] bs args) (h0 : fitsA [some j0, some j1, some j2] ds0 cs0) (h1 : fitsA [some j0, some j1, some j2] ds1 cs1) (h2 : fitsA [some j0, some j1, some j2] ds2 cs2)
    (p0 : AV.ptr 0 o0 ∈ bs) (p1 : AV.ptr 1 o1 ∈ bs) (p2 : AV.ptr 2 o2 ∈ bs) (hk : ∀ x G, R' x G → (t.aftM [j0, j1, j2] x G).ok P o lp n0 R) : t.ok P o lp n0 R := by
  refine ok_callM hd hr [j0, j1, j2] (by simp [hj.1, hj.2.1, hj.2.2]) (fits_three hb hc hx h0 h1 h2) ha (fun k j hk => .inr fun ρ E w vs _ hv => ?_) hk
  rcases k with _ | _ | _ | k
  · exact vrs_ptr hv p0
  · exact vrs_ptr hv p1
  · exact vrs_ptr hv p2
  · simp at hk
theorem ok_leafM3 {x y : AV} {c0 c1 c2 : Nat} {g0 g1 g2 : Option Nat} {cs0 cs1 cs2 ds0 ds1 ds2 : List AV} {s0 s1 s2 : Option (Nat × Nat × (Nat → List AV))} (hd : t.hd = .leaf (.tuple [x, .gsl 0 0, .gsl 1 0, .gsl 2 0])) (hb : Sv.look t.heap [0, 1, 2] = [(some (.cells c0 g0 cs0), s0), (some (.cells c1 g1 cs1), s1), (some (.cells c2 g2 cs2), s2)]) (hc : c0 ≠ c1 ∧ c0 ≠ c2 ∧ c1 ≠ c2)
    (hR : R y [.cells g0 ds0, .cells g1 ds1, .cells g2 ds2]) (hx : fitA [some 0, some 1, some 2] y x) (h0 : fitsA [some 0, some 1, some 2] ds0 cs0) (h1 : fitsA [some 0, some 1, some 2] ds1 cs1) (h2 : fitsA [some 0, some 1, some 2] ds2 cs2) (k0 : (NewB.cells g0 ds0).kept = true) (k1 : (NewB.cells g1 ds1).kept = true) (k2 : (NewB.cells g2 ds2).kept = true) : t.ok P o lp n0 (RM 3 R) := by
  refine ok_leaf (ns := [some 0, some 1, some 2]) (y := .tuple [y, .gsl 0 0, .gsl 1 0, .gsl 2 0]) (G := [.cells g0 ds0, .cells g1 ds1, .cells g2 ds2]) hd (fits_three hb hc ?_ h0 h1 h2) ⟨y, by simp [marksG, k0, k1, k2], hR⟩
  refine ⟨?_, trivial⟩
  simp only [fitA]
  simp only [fitsA]
  exact ⟨hx, by simp [fitA], by simp [fitA], by simp [fitA], trivial⟩
end
def tkG (n : Nat) (y : Nat → Nat) (a : AV) (b : Bool) : List NewB := [.cells none [.data 1 n (by8 y)], .cells none [a], .cells none [.bool b]]
theorem tk1 (n : Nat) (y : Nat → Nat) (p : Int) (hn : n ≤ 5000) (hp : 0 ≤ p ∧ p ≤ n) : RunsM Tryz.prog 31 (tkG n y (.sint .i64 p) false) [.int .i64 1, .ptr 0 0, .ptr 1 0, .ptr 2 0] fun x G => ((p + 1 ≤ n ∧ 0 ≤ n1 (sh y p.toNat) ∧ n1 (sh y p.toNat) ≤ 255) ∧ x = .sint .u64 (n1 (sh y p.toNat)) ∧ G = tkG n y (.sint .i64 (p + 1)) false) ∨ ((n : Int) < p + 1 ∧ x = .int .u64 0 ∧ G = tkG n y (.sint .i64 0) true) := by
  refine runs_treeM plain mixed (fun g => Nat.beq g 32) 60 (tkG n y (.sint .i64 p) false) ?_
  refine ok_sk (.stop []) (S := .stop (Hd.call 32 [.data 1 n (by8 y), .sint .i64 p, .int .i64 (1 : Int)]) [] ([])) (by kernel_rfl) ?_
  refine hold_stop (fun hd hb => ?_)
  refine ok_call0 hd (otk1 n y p hn hp) rfl ?_
  rintro x G ⟨rfl, ⟨h, rfl⟩ | ⟨h, rfl⟩⟩ <;> refine ⟨rfl, fun g hg => (by cases hg), ?_⟩
  ·
   refine ok_sk (.stop [0, 1, 2]) (S := .stop (Hd.leaf (.tuple [.sint .u64 (n1 (sh y p.toNat)), .gsl 0 0, .gsl 1 0, .gsl 2 0])) [0, 1, 2] ([(some (Blk.cells 0 none [.data 1 n (by8 y)]), none), (some (Blk.cells 1 none [.sint .i64 (p + 1)]), none), (some (Blk.cells 2 none [.bool false]), none)])) (by kernel_rfl) ?_
   refine hold_stop (fun hd hb => ?_)
   exact ok_leafM3 hd hb (by decide) (.inl ⟨⟨h, (n1_bd _).1, (n1_bd _).2⟩, rfl, rfl⟩) (by simp [fitA, nf]) (by simp [fitsA, fitA, nf]) (by simp [fitsA, fitA, nf]) (by simp [fitsA, fitA, nf]) rfl rfl rfl
  refine ok_sk (.stop [0, 1, 2]) (S := .stop (Hd.leaf (.tuple [.int .u64 (0 : Int), .gsl 0 0, .gsl 1 0, .gsl 2 0])) [0, 1, 2] ([(some (Blk.cells 0 none [.data 1 n (by8 y)]), none), (some (Blk.cells 1 none [.int .i64 (0 : Int)]), none), (some (Blk.cells 2 none [.bool true]), none)])) (by kernel_rfl) ?_
  refine hold_stop (fun hd hb => ?_)
  exact ok_leafM3 hd hb (by decide) (.inr ⟨h, rfl, rfl⟩) (by simp [fitA, nf]) (by simp [fitsA, fitA, nf]) (by simp [fitsA, fitA, nf]) (by simp [fitsA, fitA, nf]) rfl rfl rfl
theorem tb1 (n : Nat) (y : Nat → Nat) (p : Int) (hn : n ≤ 5000) (hp : 0 ≤ p ∧ p ≤ n) : RunsM Tryz.prog 31 (tkG n y (.sint .i64 p) true) [.int .i64 1, .ptr 0 0, .ptr 1 0, .ptr 2 0] fun x G => ∃ a v : Int, 0 ≤ a ∧ a ≤ n ∧ 0 ≤ v ∧ v ≤ 255 ∧ x = .sint .u64 v ∧ G = tkG n y (.sint .i64 a) true := by
  refine runs_treeM plain mixed (fun g => Nat.beq g 32) 60 (tkG n y (.sint .i64 p) true) ?_
  refine ok_sk (.stop []) (S := .stop (Hd.call 32 [.data 1 n (by8 y), .sint .i64 p, .int .i64 (1 : Int)]) [] ([])) (by kernel_rfl) ?_
  refine hold_stop (fun hd hb => ?_)
  refine ok_call0 hd (otk1 n y p hn hp) rfl ?_
  rintro x G ⟨rfl, ⟨h, rfl⟩ | ⟨h, rfl⟩⟩ <;> refine ⟨rfl, fun g hg => (by cases hg), ?_⟩
  ·
   refine ok_sk (.stop [0, 1, 2]) (S := .stop (Hd.leaf (.tuple [.sint .u64 (n1 (sh y p.toNat)), .gsl 0 0, .gsl 1 0, .gsl 2 0])) [0, 1, 2] ([(some (Blk.cells 0 none [.data 1 n (by8 y)]), none), (some (Blk.cells 1 none [.sint .i64 (p + 1)]), none), (some (Blk.cells 2 none [.bool true]), none)])) (by kernel_rfl) ?_
   refine hold_stop (fun hd hb => ?_)
   exact ok_leafM3 hd hb (by decide) ⟨p + 1, n1 (sh y p.toNat), by omega, by omega, (n1_bd _).1, (n1_bd _).2, rfl, rfl⟩ (by simp [fitA, nf]) (by simp [fitsA, fitA, nf]) (by simp [fitsA, fitA, nf]) (by simp [fitsA, fitA, nf]) rfl rfl rfl
  refine ok_sk (.stop [0, 1, 2]) (S := .stop (Hd.leaf (.tuple [.int .u64 (0 : Int), .gsl 0 0, .gsl 1 0, .gsl 2 0])) [0, 1, 2] ([(some (Blk.cells 0 none [.data 1 n (by8 y)]), none), (some (Blk.cells 1 none [.int .i64 (0 : Int)]), none), (some (Blk.cells 2 none [.bool true]), none)])) (by kernel_rfl) ?_
  refine hold_stop (fun hd hb => ?_)
  exact ok_leafM3 hd hb (by decide) ⟨0, 0, by omega, by omega, by omega, by omega, rfl, rfl⟩ (by simp [fitA, nf]) (by simp [fitsA, fitA, nf]) (by simp [fitsA, fitA, nf]) (by simp [fitsA, fitA, nf]) rfl rfl rfl
theorem tk2 (n : Nat) (y : Nat → Nat) (p : Int) (hn : n ≤ 5000) (hp : 0 ≤ p ∧ p ≤ n) : RunsM Tryz.prog 31 (tkG n y (.sint .i64 p) false) [.int .i64 2, .ptr 0 0, .ptr 1 0, .ptr 2 0] fun x G => ((p + 2 ≤ n ∧ 0 ≤ n2 (sh y p.toNat) ∧ n2 (sh y p.toNat) ≤ 65535) ∧ x = .sint .u64 (n2 (sh y p.toNat)) ∧ G = tkG n y (.sint .i64 (p + 2)) false) ∨ ((n : Int) < p + 2 ∧ x = .int .u64 0 ∧ G = tkG n y (.sint .i64 0) true) := by
  refine runs_treeM plain mixed (fun g => Nat.beq g 32) 60 (tkG n y (.sint .i64 p) false) ?_
  refine ok_sk (.stop []) (S := .stop (Hd.call 32 [.data 1 n (by8 y), .sint .i64 p, .int .i64 (2 : Int)]) [] ([])) (by kernel_rfl) ?_
  refine hold_stop (fun hd hb => ?_)
  refine ok_call0 hd (otk2 n y p hn hp) rfl ?_
  rintro x G ⟨rfl, ⟨h, rfl⟩ | ⟨h, rfl⟩⟩ <;> refine ⟨rfl, fun g hg => (by cases hg), ?_⟩
  ·
   refine ok_sk (.stop [0, 1, 2]) (S := .stop (Hd.leaf (.tuple [.sint .u64 (n2 (sh y p.toNat)), .gsl 0 0, .gsl 1 0, .gsl 2 0])) [0, 1, 2] ([(some (Blk.cells 0 none [.data 1 n (by8 y)]), none), (some (Blk.cells 1 none [.sint .i64 (p + 2)]), none), (some (Blk.cells 2 none [.bool false]), none)])) (by kernel_rfl) ?_
   refine hold_stop (fun hd hb => ?_)
   exact ok_leafM3 hd hb (by decide) (.inl ⟨⟨h, (n2_bd _).1, (n2_bd _).2⟩, rfl, rfl⟩) (by simp [fitA, nf]) (by simp [fitsA, fitA, nf]) (by simp [fitsA, fitA, nf]) (by simp [fitsA, fitA, nf]) rfl rfl rfl
  refine ok_sk (.stop [0, 1, 2]) (S := .stop (Hd.leaf (.tuple [.int .u64 (0 : Int), .gsl 0 0, .gsl 1 0, .gsl 2 0])) [0, 1, 2] ([(some (Blk.cells 0 none [.data 1 n (by8 y)]), none), (some (Blk.cells 1 none [.int .i64 (0 : Int)]), none), (some (Blk.cells 2 none [.bool true]), none)])) (by kernel_rfl) ?_
  refine hold_stop (fun hd hb => ?_)
  exact ok_leafM3 hd hb (by decide) (.inr ⟨h, rfl, rfl⟩) (by simp [fitA, nf]) (by simp [fitsA, fitA, nf]) (by simp [fitsA, fitA, nf]) (by simp [fitsA, fitA, nf]) rfl rfl rfl
theorem tb2 (n : Nat) (y : Nat → Nat) (p : Int) (hn : n ≤ 5000) (hp : 0 ≤ p ∧ p ≤ n) : RunsM Tryz.prog 31 (tkG n y (.sint .i64 p) true) [.int .i64 2, .ptr 0 0, .ptr 1 0, .ptr 2 0] fun x G => ∃ a v : Int, 0 ≤ a ∧ a ≤ n ∧ 0 ≤ v ∧ v ≤ 65535 ∧ x = .sint .u64 v ∧ G = tkG n y (.sint .i64 a) true := by
  refine runs_treeM plain mixed (fun g => Nat.beq g 32) 60 (tkG n y (.sint .i64 p) true) ?_
  refine ok_sk (.stop []) (S := .stop (Hd.call 32 [.data 1 n (by8 y), .sint .i64 p, .int .i64 (2 : Int)]) [] ([])) (by kernel_rfl) ?_
  refine hold_stop (fun hd hb => ?_)
  refine ok_call0 hd (otk2 n y p hn hp) rfl ?_
  rintro x G ⟨rfl, ⟨h, rfl⟩ | ⟨h, rfl⟩⟩ <;> refine ⟨rfl, fun g hg => (by cases hg), ?_⟩
  ·
   refine ok_sk (.stop [0, 1, 2]) (S := .stop (Hd.leaf (.tuple [.sint .u64 (n2 (sh y p.toNat)), .gsl 0 0, .gsl 1 0, .gsl 2 0])) [0, 1, 2] ([(some (Blk.cells 0 none [.data 1 n (by8 y)]), none), (some (Blk.cells 1 none [.sint .i64 (p + 2)]), none), (some (Blk.cells 2 none [.bool true]), none)])) (by kernel_rfl) ?_
   refine hold_stop (fun hd hb => ?_)
   exact ok_leafM3 hd hb (by decide) ⟨p + 2, n2 (sh y p.toNat), by omega, by omega, (n2_bd _).1, (n2_bd _).2, rfl, rfl⟩ (by simp [fitA, nf]) (by simp [fitsA, fitA, nf]) (by simp [fitsA, fitA, nf]) (by simp [fitsA, fitA, nf]) rfl rfl rfl
  refine ok_sk (.stop [0, 1, 2]) (S := .stop (Hd.leaf (.tuple [.int .u64 (0 : Int), .gsl 0 0, .gsl 1 0, .gsl 2 0])) [0, 1, 2] ([(some (Blk.cells 0 none [.data 1 n (by8 y)]), none), (some (Blk.cells 1 none [.int .i64 (0 : Int)]), none), (some (Blk.cells 2 none [.bool true]), none)])) (by kernel_rfl) ?_
  refine hold_stop (fun hd hb => ?_)
  exact ok_leafM3 hd hb (by decide) ⟨0, 0, by omega, by omega, by omega, by omega, rfl, rfl⟩ (by simp [fitA, nf]) (by simp [fitsA, fitA, nf]) (by simp [fitsA, fitA, nf]) (by simp [fitsA, fitA, nf]) rfl rfl rfl
theorem tk4 (n : Nat) (y : Nat → Nat) (p : Int) (hn : n ≤ 5000) (hp : 0 ≤ p ∧ p ≤ n) : RunsM Tryz.prog 31 (tkG n y (.sint .i64 p) false) [.int .i64 4, .ptr 0 0, .ptr 1 0, .ptr 2 0] fun x G => ((p + 4 ≤ n ∧ 0 ≤ n4 (sh y p.toNat) ∧ n4 (sh y p.toNat) ≤ 4294967295) ∧ x = .sint .u64 (n4 (sh y p.toNat)) ∧ G = tkG n y (.sint .i64 (p + 4)) false) ∨ ((n : Int) < p + 4 ∧ x = .int .u64 0 ∧ G = tkG n y (.sint .i64 0) true) := by
  refine runs_treeM plain mixed (fun g => Nat.beq g 32) 60 (tkG n y (.sint .i64 p) false) ?_
  refine ok_sk (.stop []) (S := .stop (Hd.call 32 [.data 1 n (by8 y), .sint .i64 p, .int .i64 (4 : Int)]) [] ([])) (by kernel_rfl) ?_
  refine hold_stop (fun hd hb => ?_)
  refine ok_call0 hd (otk4 n y p hn hp) rfl ?_
  rintro x G ⟨rfl, ⟨h, rfl⟩ | ⟨h, rfl⟩⟩ <;> refine ⟨rfl, fun g hg => (by cases hg), ?_⟩
  ·
   refine ok_sk (.stop [0, 1, 2]) (S := .stop (Hd.leaf (.tuple [.sint .u64 (n4 (sh y p.toNat)), .gsl 0 0, .gsl 1 0, .gsl 2 0])) [0, 1, 2] ([(some (Blk.cells 0 none [.data 1 n (by8 y)]), none), (some (Blk.cells 1 none [.sint .i64 (p + 4)]), none), (some (Blk.cells 2 none [.bool false]), none)])) (by kernel_rfl) ?_
   refine hold_stop (fun hd hb => ?_)
   exact ok_leafM3 hd hb (by decide) (.inl ⟨⟨h, (n4_bd _).1, (n4_bd _).2⟩, rfl, rfl⟩) (by simp [fitA, nf]) (by simp [fitsA, fitA, nf]) (by simp [fitsA, fitA, nf]) (by simp [fitsA, fitA, nf]) rfl rfl rfl
  refine ok_sk (.stop [0, 1, 2]) (S := .stop (Hd.leaf (.tuple [.int .u64 (0 : Int), .gsl 0 0, .gsl 1 0, .gsl 2 0])) [0, 1, 2] ([(some (Blk.cells 0 none [.data 1 n (by8 y)]), none), (some (Blk.cells 1 none [.int .i64 (0 : Int)]), none), (some (Blk.cells 2 none [.bool true]), none)])) (by kernel_rfl) ?_
  refine hold_stop (fun hd hb => ?_)
  exact ok_leafM3 hd hb (by decide) (.inr ⟨h, rfl, rfl⟩) (by simp [fitA, nf]) (by simp [fitsA, fitA, nf]) (by simp [fitsA, fitA, nf]) (by simp [fitsA, fitA, nf]) rfl rfl rfl
theorem tb4 (n : Nat) (y : Nat → Nat) (p : Int) (hn : n ≤ 5000) (hp : 0 ≤ p ∧ p ≤ n) : RunsM Tryz.prog 31 (tkG n y (.sint .i64 p) true) [.int .i64 4, .ptr 0 0, .ptr 1 0, .ptr 2 0] fun x G => ∃ a v : Int, 0 ≤ a ∧ a ≤ n ∧ 0 ≤ v ∧ v ≤ 4294967295 ∧ x = .sint .u64 v ∧ G = tkG n y (.sint .i64 a) true := by
  refine runs_treeM plain mixed (fun g => Nat.beq g 32) 60 (tkG n y (.sint .i64 p) true) ?_
  refine ok_sk (.stop []) (S := .stop (Hd.call 32 [.data 1 n (by8 y), .sint .i64 p, .int .i64 (4 : Int)]) [] ([])) (by kernel_rfl) ?_
  refine hold_stop (fun hd hb => ?_)
  refine ok_call0 hd (otk4 n y p hn hp) rfl ?_
  rintro x G ⟨rfl, ⟨h, rfl⟩ | ⟨h, rfl⟩⟩ <;> refine ⟨rfl, fun g hg => (by cases hg), ?_⟩
  ·
   refine ok_sk (.stop [0, 1, 2]) (S := .stop (Hd.leaf (.tuple [.sint .u64 (n4 (sh y p.toNat)), .gsl 0 0, .gsl 1 0, .gsl 2 0])) [0, 1, 2] ([(some (Blk.cells 0 none [.data 1 n (by8 y)]), none), (some (Blk.cells 1 none [.sint .i64 (p + 4)]), none), (some (Blk.cells 2 none [.bool true]), none)])) (by kernel_rfl) ?_
   refine hold_stop (fun hd hb => ?_)
   exact ok_leafM3 hd hb (by decide) ⟨p + 4, n4 (sh y p.toNat), by omega, by omega, (n4_bd _).1, (n4_bd _).2, rfl, rfl⟩ (by simp [fitA, nf]) (by simp [fitsA, fitA, nf]) (by simp [fitsA, fitA, nf]) (by simp [fitsA, fitA, nf]) rfl rfl rfl
  refine ok_sk (.stop [0, 1, 2]) (S := .stop (Hd.leaf (.tuple [.int .u64 (0 : Int), .gsl 0 0, .gsl 1 0, .gsl 2 0])) [0, 1, 2] ([(some (Blk.cells 0 none [.data 1 n (by8 y)]), none), (some (Blk.cells 1 none [.int .i64 (0 : Int)]), none), (some (Blk.cells 2 none [.bool true]), none)])) (by kernel_rfl) ?_
  refine hold_stop (fun hd hb => ?_)
  exact ok_leafM3 hd hb (by decide) ⟨0, 0, by omega, by omega, by omega, by omega, rfl, rfl⟩ (by simp [fitA, nf]) (by simp [fitsA, fitA, nf]) (by simp [fitsA, fitA, nf]) (by simp [fitsA, fitA, nf]) rfl rfl rfl
theorem tk8 (n : Nat) (y : Nat → Nat) (p : Int) (hn : n ≤ 5000) (hp : 0 ≤ p ∧ p ≤ n) : RunsM Tryz.prog 31 (tkG n y (.sint .i64 p) false) [.int .i64 8, .ptr 0 0, .ptr 1 0, .ptr 2 0] fun x G => ((p + 8 ≤ n ∧ 0 ≤ n8 (sh y p.toNat) ∧ n8 (sh y p.toNat) ≤ 18446744073709551615) ∧ x = .sint .u64 (n8 (sh y p.toNat)) ∧ G = tkG n y (.sint .i64 (p + 8)) false) ∨ ((n : Int) < p + 8 ∧ x = .int .u64 0 ∧ G = tkG n y (.sint .i64 0) true) := by
  refine runs_treeM plain mixed (fun g => Nat.beq g 32) 60 (tkG n y (.sint .i64 p) false) ?_
  refine ok_sk (.stop []) (S := .stop (Hd.call 32 [.data 1 n (by8 y), .sint .i64 p, .int .i64 (8 : Int)]) [] ([])) (by kernel_rfl) ?_
  refine hold_stop (fun hd hb => ?_)
  refine ok_call0 hd (otk8 n y p hn hp) rfl ?_
  rintro x G ⟨rfl, ⟨h, rfl⟩ | ⟨h, rfl⟩⟩ <;> refine ⟨rfl, fun g hg => (by cases hg), ?_⟩
  ·
   refine ok_sk (.stop [0, 1, 2]) (S := .stop (Hd.leaf (.tuple [.sint .u64 (n8 (sh y p.toNat)), .gsl 0 0, .gsl 1 0, .gsl 2 0])) [0, 1, 2] ([(some (Blk.cells 0 none [.data 1 n (by8 y)]), none), (some (Blk.cells 1 none [.sint .i64 (p + 8)]), none), (some (Blk.cells 2 none [.bool false]), none)])) (by kernel_rfl) ?_
   refine hold_stop (fun hd hb => ?_)
   exact ok_leafM3 hd hb (by decide) (.inl ⟨⟨h, (n8_bd _).1, (n8_bd _).2⟩, rfl, rfl⟩) (by simp [fitA, nf]) (by simp [fitsA, fitA, nf]) (by simp [fitsA, fitA, nf]) (by simp [fitsA, fitA, nf]) rfl rfl rfl
  refine ok_sk (.stop [0, 1, 2]) (S := .stop (Hd.leaf (.tuple [.int .u64 (0 : Int), .gsl 0 0, .gsl 1 0, .gsl 2 0])) [0, 1, 2] ([(some (Blk.cells 0 none [.data 1 n (by8 y)]), none), (some (Blk.cells 1 none [.int .i64 (0 : Int)]), none), (some (Blk.cells 2 none [.bool true]), none)])) (by kernel_rfl) ?_
  refine hold_stop (fun hd hb => ?_)
  exact ok_leafM3 hd hb (by decide) (.inr ⟨h, rfl, rfl⟩) (by simp [fitA, nf]) (by simp [fitsA, fitA, nf]) (by simp [fitsA, fitA, nf]) (by simp [fitsA, fitA, nf]) rfl rfl rfl
theorem tb8 (n : Nat) (y : Nat → Nat) (p : Int) (hn : n ≤ 5000) (hp : 0 ≤ p ∧ p ≤ n) : RunsM Tryz.prog 31 (tkG n y (.sint .i64 p) true) [.int .i64 8, .ptr 0 0, .ptr 1 0, .ptr 2 0] fun x G => ∃ a : Int, 0 ≤ a ∧ a ≤ n ∧ x = .unkI .u64 ∧ G = tkG n y (.sint .i64 a) true := by
  refine runs_treeM plain mixed (fun g => Nat.beq g 32) 60 (tkG n y (.sint .i64 p) true) ?_
  refine ok_sk (.stop []) (S := .stop (Hd.call 32 [.data 1 n (by8 y), .sint .i64 p, .int .i64 (8 : Int)]) [] ([])) (by kernel_rfl) ?_
  refine hold_stop (fun hd hb => ?_)
  refine ok_call0 hd (otk8 n y p hn hp) rfl ?_
  rintro x G ⟨rfl, ⟨h, rfl⟩ | ⟨h, rfl⟩⟩ <;> refine ⟨rfl, fun g hg => (by cases hg), ?_⟩
  ·
   refine ok_sk (.stop [0, 1, 2]) (S := .stop (Hd.leaf (.tuple [.sint .u64 (n8 (sh y p.toNat)), .gsl 0 0, .gsl 1 0, .gsl 2 0])) [0, 1, 2] ([(some (Blk.cells 0 none [.data 1 n (by8 y)]), none), (some (Blk.cells 1 none [.sint .i64 (p + 8)]), none), (some (Blk.cells 2 none [.bool true]), none)])) (by kernel_rfl) ?_
   refine hold_stop (fun hd hb => ?_)
   exact ok_leafM3 hd hb (by decide) ⟨p + 8, by omega, by omega, rfl, rfl⟩ (by simp [fitA, nf]) (by simp [fitsA, fitA, nf]) (by simp [fitsA, fitA, nf]) (by simp [fitsA, fitA, nf]) rfl rfl rfl
  refine ok_sk (.stop [0, 1, 2]) (S := .stop (Hd.leaf (.tuple [.int .u64 (0 : Int), .gsl 0 0, .gsl 1 0, .gsl 2 0])) [0, 1, 2] ([(some (Blk.cells 0 none [.data 1 n (by8 y)]), none), (some (Blk.cells 1 none [.int .i64 (0 : Int)]), none), (some (Blk.cells 2 none [.bool true]), none)])) (by kernel_rfl) ?_
  refine hold_stop (fun hd hb => ?_)
  exact ok_leafM3 hd hb (by decide) ⟨0, by omega, by omega, rfl, rfl⟩ (by simp [fitA, nf]) (by simp [fitsA, fitA, nf]) (by simp [fitsA, fitA, nf]) (by simp [fitsA, fitA, nf]) rfl rfl rfl
end Go.Proofs.YtkebdfbdneggkaaGreat
namespace Go.Proofs.YtkebdfbdneggkaaGreat
open Go Go.RowKit Sv
def fT : AV := .fn 31 [] [.ptr 0 0, .ptr 2 0, .ptr 3 0]
def bk (c : Nat) (l : List AV) : Option Blk × Option (Nat × Nat × (Nat → List AV)) := (some (.cells c none l), none)
def q8 (y : Nat → Nat) (k : Nat) : AV := .sint .u64 (n8 (sh y k))
def m1 (y : Nat → Nat) (k : Nat) : AV := .sint .i64 (n1 (sh y k) - 1)
def m2 (y : Nat → Nat) (k : Nat) : AV := .sint .i64 (n2 (sh y k) - 1)
def m4 (y : Nat → Nat) (k : Nat) : AV := .sint .i64 (n4 (sh y k) - 1)
end Go.Proofs.YtkebdfbdneggkaaGreat
