import Derived.Test.YtjihbjjekhncaaaVecA
import Derived.Test.YtjihbjjekhncaaaFlatIn
import Derived.Laws.ResultCell
import Derived.Deep.MidRow
import Derived.Deep.RegionHeld3
import Derived.Deep.DrawnRows
import Derived.Test.YtjihbjjekhncaaaPlanB
namespace Go.Proofs.Ytjihbjjekhncaaa
open Go.RowKit
theorem vecA_set (L : List Nat) (k x : Nat) : (vecA L).setIfInBounds k (.int .u64 (x : Int)) = vecA (L.set k x) := by
  unfold vecA
  simp [List.map_set]
theorem results_row_tmp {P : Program} {fn : Func} {p u : Tmp} {ty : TypeId} (h : fn.results = #[.cell p ty, .tmp u]) (tmps : Array Value) (w : World) (g : Nat) (t : TypeId) (cs : Array Value) (fr : Nat × Nat) (d : TypeDesc)
    (hp : tmps.getD p undef = .pointer (some ⟨g, 0, none⟩)) (hg : w.heap[g]? = some (.cells cs t fr))
    (hu : P.underlying ty = some d) (hd : (match d with | .struct _ | .array _ _ => true | _ => false) = true) (hi : (P.info? ty).map (·.size) = some cs.size) :
    (results fn tmps).run P w = .ok (.tuple #[.agg cs, tmps.getD u undef]) w := by
  rw [results_cell_tmp h, hp]
  simp [asAddr, run_loadVar_row w g t ty cs fr d hg hu hd hi, Result.andThen]
theorem region_yes (k : Nat) (hk : k < 6) (w : World) : Calls Try.prog 103 #[.int .i64 ((k : Int) + 1)] w fun e w' => e = .returned (.bool true) ∧ w = w' := by
  have h1 : (1 : Int) ≤ (k : Int) + 1 := by omega
  have h2 : (k : Int) + 1 ≤ 6 := by omega
  go_enter Try.func103, Try.ntmps103
  go_wp2_with fail
  go_ret
  exact ⟨rfl, rfl⟩
theorem region_no (z : Int) (h : z < 1 ∨ 6 < z) (w : World) : Calls Try.prog 103 #[.int .i64 z] w fun e w' => e = .returned (.bool false) ∧ w = w' := by
  rcases h with h | h
  case' inl => have h1 : ¬ (1 : Int) ≤ z := by omega
  case' inr =>
    have h1 : (1 : Int) ≤ z := by omega
    have h2 : ¬ z ≤ 6 := by omega
  all_goals
    go_enter Try.func103, Try.ntmps103
    go_wp2_with fail
    go_ret
    exact ⟨rfl, rfl⟩
theorem reg_cases (z : Int) : (∃ k : Nat, k < 6 ∧ z = (k : Int) + 1) ∨ (z < 1 ∨ 6 < z) := by
  by_cases h : 1 ≤ z ∧ z ≤ 6
  · exact .inl ⟨(z - 1).toNat, by omega, by omega⟩
  · exact .inr (by omega)
theorem vcell (w : World) (L : List Nat) (t : TypeId) (k : Nat) (hk : k < L.length) : (w.alloc (.cells (vecA L) t)).cell? ⟨w.heap.size, k, none⟩ = some (.int .u64 ((L[k] : Nat) : Int)) := by
  rw [(Blk.new w t (vecA L)).cell, vecA_at L k hk]
/-- a slice of vectors. -/
def vecL (L : List Nat) : List Value := L.map fun n : Nat => Value.int .u64 (n : Int)
def Z6 : List Nat := [0, 0, 0, 0, 0, 0]
def K6 : List (Option IntKind) := List.replicate 6 (some .u64)
theorem flat6 : flatOK Try.prog 3 24 K6 = true := by kernel_rfl
theorem wf_nat {n : Int} (h : (Lit.int .u64 n).wf = true) : ∃ m : Nat, n = (m : Int) ∧ m ≤ 18446744073709551615 := by
  have := wf_u64 h
  exact ⟨n.toNat, by omega, by omega⟩
theorem vecL_at (L : List Nat) (k : Nat) (h : k < L.length) : (vecL L)[k]? = some (.int .u64 ((L[k] : Nat) : Int)) := by simp [vecL, h]
theorem vec_cells : ∀ (n : Nat) (cs : List Value), Kinded (List.replicate n (some .u64)) cs → ∃ L : List Nat, cs = vecL L ∧ L.length = n ∧ ∀ x ∈ L, x ≤ 18446744073709551615
  | 0, cs, h => ⟨[], by have := h.1; simpa [vecL] using this, rfl, (fun x hx => by cases hx)⟩
  | n + 1, [], h => by have := h.1; simp at this
  | n + 1, c :: cs, h => by
    obtain ⟨z, hz, hw⟩ := h.2 0 (some .u64) c rfl rfl
    obtain ⟨m, rfl, hm⟩ := wf_nat hw
    obtain ⟨L, rfl, hl, hb⟩ := vec_cells n cs ⟨by have := h.1; simpa using this, fun p k v hk hv => h.2 (p + 1) k v (by rw [List.replicate_succ, List.getElem?_cons_succ]; exact hk) (by simpa using hv)⟩
    refine ⟨m :: L, by rw [hz]; rfl, by simp [hl], fun x hx => ?_⟩
    rcases List.mem_cons.1 hx with rfl | hx
    · exact hm
    · exact hb x hx
set_option maxRecDepth 100000 in
theorem open_vec {H : Type} {enc : TypeId × Value → H} {w w' : World} {base b0 : Nat} {r : Reach} {sp : Nat → Bool} {held : Bool} {v : Value} {dd : DataW H} {ps : List MemPlace}
    (hv : Value.okWide Try.prog w' r b0 24 v) (h : DataW.Trod enc Try.prog w base sp held 24 v dd ps) :
    ∃ L : List Nat, v = .agg (vecA L) ∧ L.length = 6 ∧ ∀ x ∈ L, x ≤ 18446744073709551615 := by
  obtain ⟨cs, rfl, hk⟩ := flat_value 3 K6 flat6 Try.underlying24 rfl hv h
  obtain ⟨L, rfl, hl, hb⟩ := vec_cells 6 cs hk
  exact ⟨L, rfl, hl, hb⟩
def loadV (p : Value) : Sem Value := Instr.loadAt 24 p
def storeV (p v : Value) : Sem Unit := Instr.storeAt 24 p v
theorem exec_loadV (ρ : Operand → Value) (dst : Option Tmp) (x : Operand) (ty : TypeId) (pos : String) (after : Array Edge) (guard : Option (Nat × Bool)) :
    execOp ρ ⟨dst, .load 24 x, ty, pos, after, guard⟩ = (do pure (.value (← loadV (ρ x)))) := rfl
theorem exec_storeV (ρ : Operand → Value) (dst : Option Tmp) (x y : Operand) (ty : TypeId) (pos : String) (after : Array Edge) (guard : Option (Nat × Bool)) :
    execOp ρ ⟨dst, .store 24 x y, ty, pos, after, guard⟩ = (do storeV (ρ x) (ρ y); pure .skip) := rfl
theorem run_loadV {W : World} {g : Nat} {L : List Nat} (hL : L.length = 6) (h : Blk W g 24 (vecA L)) : (loadV (.pointer (some ⟨g, 0, none⟩))).run Try.prog W = .ok (.agg (vecA L)) W := by
  have := run_loadVar_row W g 24 24 (vecA L) (0, 0) _ h Try.underlying24 rfl (infoV_of L hL)
  unfold loadV Instr.loadAt
  simp only [Instr.sureAddr, Sem.run_bind, Sem.run_pure, Result.andThen_ok, this]
theorem run_storeV {W : World} {g : Nat} {L : List Nat} {old : Array Value} (hL : L.length = 6) (h : W.heap[g]? = some (.cells old 24 (0, 0))) (hold : old.size = 6) :
    (storeV (.pointer (some ⟨g, 0, none⟩)) (.agg (vecA L))).run Try.prog W = .ok () (W.setRow g (vecA L)) := by
  have h1 : old.size = (vecA L).size := by rw [vecA_size, hL, hold]
  have := run_storeVar_row W g 24 24 old (vecA L) h (infoV_of L hL) h1 (vecA_one L)
  unfold storeV Instr.storeAt
  simp only [Instr.sureAddr, Sem.run_bind, Sem.run_pure, Result.andThen_ok, this]
theorem Blk.after {W W' : World} {g : Nat} {t : TypeId} {cs : Array Value} (hb : Below W.heap.size W W') (h : Blk W g t cs) : Blk W' g t cs := h.below hb h.lt

theorem Below.drewM {B : Nat} {a w : World} (h : Below B a w) (n : Nat) : Below B a (w.drewN n) := ⟨h.os, h.tape, h.output, h.size, h.block⟩
theorem Blk.drewM {W : World} {g : Nat} {t : TypeId} {cs : Array Value} (h : Blk W g t cs) (n : Nat) : Blk (W.drewN n) g t cs := h

theorem run_loadV_mid {W : World} {b o : Nat} {L : List Nat} (hL : L.length = 6) (h : W.rangeAt b o (vecL L)) : (loadV (.pointer (some ⟨b, o, none⟩))).run Try.prog W = .ok (.agg (vecA L)) W :=
  run_loadAt_mid (P := Try.prog) W b o 24 (vecL L) _ h Try.underlying24 rfl (by simp only [vecL, List.length_map, hL]; exact infoV)
theorem run_storeV_mid {W : World} {b o : Nat} {L : List Nat} (hL : L.length = 6) (h : W.there b o 6) : (storeV (.pointer (some ⟨b, o, none⟩)) (.agg (vecA L))).run Try.prog W = .ok () (W.setCells b o (vecL L)) := by
  have := run_storeAt_mid (P := Try.prog) W b o 24 (vecA L) (by rw [vecA_size, hL]; exact h) (infoV_of L hL) (vecA_one L)
  exact this
/-- cells written one behind the other. -/
def setSeq (C : Array Value) : Nat → List Value → Array Value
  | _, [] => C
  | o, v :: r => setSeq (C.setIfInBounds o v) (o + 1) r
theorem Blk.cells {W : World} {g : Nat} {t : TypeId} : ∀ (vs : List Value) (C : Array Value) (o : Nat) (W : World), Blk W g t C → Blk (W.setCells g o vs) g t (setSeq C o vs)
  | [], _, _, _, h => h
  | v :: r, C, o, W, h => Blk.cells (W := W) r _ (o + 1) _ (h.set_ o v)
theorem Blk.cellsFar {W : World} {g k : Nat} {t : TypeId} {C : Array Value} (hk : g ≠ k) : ∀ (vs : List Value) (o : Nat) (W : World), Blk W g t C → Blk (W.setCells k o vs) g t C
  | [], _, _, h => h
  | v :: r, o, W, h => Blk.cellsFar (W := W) hk r (o + 1) _ (h.far (p := ⟨k, o, none⟩) hk v)
theorem below_setCells {B : Nat} {w : World} {k : Nat} (hk : B ≤ k) : ∀ (vs : List Value) (o : Nat) (W : World), Below B w W → Below B w (W.setCells k o vs)
  | [], _, _, h => h
  | v :: r, o, W, h => below_setCells hk r (o + 1) _ (h.setCell (p := ⟨k, o, none⟩) hk v)
end Go.Proofs.Ytjihbjjekhncaaa
