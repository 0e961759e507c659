import Derived.Test.YtjihbjjekhncaaaEvM
import Derived.BigRegion
import Derived.BigQuiet
import Derived.Deep.DeepCutAuto
namespace Go.Proofs.Ytjihbjjekhncaaa
open Go.RowKit
/-! events in blocks; loads, stores and builds behind words that the walk does not lay open. -/
def E0 : Ev := ⟨0, 0, Z6, 0, 0, 0, 0, 0, 0⟩
theorem E0_ok : E0.ok := ⟨rfl, rfl, rfl, rfl, by decide, by decide, by decide, by decide, by decide, by decide⟩
theorem evA_one (e : Ev) : (evA e).all (·.oneCell') = true := by
  rw [Array.all_eq_true']
  intro v hv
  simp only [evA, evL, vecL, List.mem_toArray, List.mem_cons, List.mem_append, List.mem_map, List.not_mem_nil, or_false] at hv
  rcases hv with rfl | rfl | ⟨x, _, rfl⟩ | rfl | rfl | rfl | rfl | rfl | rfl <;> rfl
def loadE (p : Value) : Sem Value := Instr.loadAt 26 p
def storeE (p v : Value) : Sem Unit := Instr.storeAt 26 p v
def allocE : Sem Value := Instr.alloc 26 true (.tuple #[])
def buildE (parts : Array (Nat × Value)) : Sem Value := Instr.build 26 parts
theorem exec_loadE (ρ : Operand → Value) (dst : Option Tmp) (x : Operand) (ty : TypeId) (pos : String) (after : Array Edge) (guard : Option (Nat × Bool)) :
    execOp ρ ⟨dst, .load 26 x, ty, pos, after, guard⟩ = (do pure (.value (← loadE (ρ x)))) := rfl
theorem exec_storeE (ρ : Operand → Value) (dst : Option Tmp) (x y : Operand) (ty : TypeId) (pos : String) (after : Array Edge) (guard : Option (Nat × Bool)) :
    execOp ρ ⟨dst, .store 26 x y, ty, pos, after, guard⟩ = (do storeE (ρ x) (ρ y); pure .skip) := rfl
theorem exec_allocE (ρ : Operand → Value) (dst : Option Tmp) (ty : TypeId) (pos : String) (after : Array Edge) (guard : Option (Nat × Bool)) :
    execOp ρ ⟨dst, .alloc 26, ty, pos, after, guard⟩ = (do pure (.value (← allocE))) := rfl
theorem exec_buildE (ρ : Operand → Value) (dst : Option Tmp) (parts : Array (Nat × Operand)) (ty : TypeId) (pos : String) (after : Array Edge) (guard : Option (Nat × Bool)) :
    execOp ρ ⟨dst, .build 26 parts, ty, pos, after, guard⟩ = (do pure (.value (← buildE (parts.map fun x => (x.1, ρ x.2))))) := rfl
theorem infoE_of {e : Ev} (h : e.d.length = 6) : (Try.prog.info? 26).map (·.size) = some (evA e).size := by rw [evA_size h]; exact infoE
theorem run_loadE_mid {W : World} {b o : Nat} {e : Ev} (h : e.d.length = 6) (hr : W.rangeAt b o (evL e)) : (loadE (.pointer (some ⟨b, o, none⟩))).run Try.prog W = .ok (.agg (evA e)) W :=
  run_loadAt_mid (P := Try.prog) W b o 26 (evL e) _ hr Try.underlying26 rfl (by rw [evL_len h]; exact infoE)
theorem run_storeE {W : World} {g : Nat} {e : Ev} {old : Array Value} (h : e.d.length = 6) (hb : W.heap[g]? = some (.cells old 26 (0, 0))) (hold : old.size = 14) :
    (storeE (.pointer (some ⟨g, 0, none⟩)) (.agg (evA e))).run Try.prog W = .ok () (W.setRow g (evA e)) := by
  have h1 : old.size = (evA e).size := by rw [evA_size h, hold]
  have := run_storeVar_row W g 26 26 old (evA e) hb (infoE_of h) h1 (evA_one e)
  unfold storeE Instr.storeAt
  simp only [Instr.sureAddr, Sem.run_bind, Sem.run_pure, Result.andThen_ok, this]
theorem run_storeE_new {e : Ev} (h : e.d.length = 6) (W : World) : (storeE (.pointer (some ⟨W.heap.size, 0, none⟩)) (.agg (evA e))).run Try.prog (W.alloc (.cells (evA E0) 26)) = .ok () (W.alloc (.cells (evA e) 26)) := by
  rw [run_storeE h (heap_alloc_new W _) rfl, setRow_new W W.heap.size rfl]
theorem run_allocE (W : World) : allocE.run Try.prog W = .ok (.pointer (some ⟨W.heap.size, 0, none⟩)) (W.alloc (.cells (evA E0) 26)) := by
  unfold allocE
  go_simp
  rfl
theorem run_buildE0 (W : World) : (buildE #[]).run Try.prog W = .ok (.agg (evA E0)) W := by
  unfold buildE
  go_simp
  rfl
/-- an event with its head alone. -/
def headE (e : Ev) : Ev := { E0 with o := e.o, s := e.s, d := e.d, k := e.k }
theorem run_buildE4 (e : Ev) (h : e.d.length = 6) (W : World) : (buildE #[(0, .int .i64 e.o), (1, .int .u64 (e.s : Int)), (2, .agg (vecA e.d)), (3, .int .u8 (e.k : Int))]).run Try.prog W = .ok (.agg (evA (headE e))) W := by
  obtain ⟨o, s, d, k, n, t, a, r, f⟩ := e
  obtain ⟨x0, x1, x2, x3, x4, x5, rfl⟩ := six h
  unfold buildE
  simp only [vecA, List.map]
  go_simp
  rfl
/-! an event that lies whole in a block, or among other cells. -/
section
variable {W W' : World} {b o : Nat} {e : Ev}
theorem rg_o (h : W.rangeAt b o (evL e)) : W.cell? ⟨b, o, none⟩ = some (.int .i64 e.o) := h 0 _ rfl
theorem rg_s (h : W.rangeAt b o (evL e)) : W.cell? ⟨b, o + 1, none⟩ = some (.int .u64 (e.s : Int)) := h 1 _ rfl
theorem rg_dl (h : W.rangeAt b o (evL e)) : W.rangeAt b (o + 2) (vecL e.d) := fun j v hj => by
  have hl : j < (vecL e.d).length := by
    rcases Nat.lt_or_ge j (vecL e.d).length with h | h
    · exact h
    · rw [List.getElem?_eq_none h] at hj; cases hj
  have := h (2 + j) v (by
    show (evL e)[2 + j]? = _
    unfold evL
    rw [show 2 + j = j + 1 + 1 by omega, List.getElem?_cons_succ, List.getElem?_cons_succ, List.getElem?_append_left hl]
    exact hj)
  rwa [← Nat.add_assoc] at this
theorem rg_d (h : W.rangeAt b o (evL e)) (k : Nat) (hk : k < e.d.length) : W.cell? ⟨b, o + 2 + k, none⟩ = some (.int .u64 ((e.d[k] : Nat) : Int)) := rg_dl h k _ (vecL_at e.d k hk)
theorem evL_tail (d6 : e.d.length = 6) (j : Nat) : (evL e)[8 + j]? = [Value.int .u8 (e.k : Int), .int .u64 (e.n : Int), .int .i64 e.t, .int .i64 e.a, .int .u64 (e.r : Int), .int .u64 (e.f : Int)][j]? := by
  unfold evL
  rw [show 8 + j = j + 6 + 1 + 1 by omega, List.getElem?_cons_succ, List.getElem?_cons_succ, List.getElem?_append_right (by rw [vecL_len]; omega), vecL_len, d6, Nat.add_sub_cancel]
theorem rg_k (h : W.rangeAt b o (evL e)) (d6 : e.d.length = 6) : W.cell? ⟨b, o + 8, none⟩ = some (.int .u8 (e.k : Int)) := h 8 _ (evL_tail d6 0)
theorem rg_n (h : W.rangeAt b o (evL e)) (d6 : e.d.length = 6) : W.cell? ⟨b, o + 9, none⟩ = some (.int .u64 (e.n : Int)) := h 9 _ (evL_tail d6 1)
theorem rg_t (h : W.rangeAt b o (evL e)) (d6 : e.d.length = 6) : W.cell? ⟨b, o + 10, none⟩ = some (.int .i64 e.t) := h 10 _ (evL_tail d6 2)
theorem rg_a (h : W.rangeAt b o (evL e)) (d6 : e.d.length = 6) : W.cell? ⟨b, o + 11, none⟩ = some (.int .i64 e.a) := h 11 _ (evL_tail d6 3)
theorem rg_r (h : W.rangeAt b o (evL e)) (d6 : e.d.length = 6) : W.cell? ⟨b, o + 12, none⟩ = some (.int .u64 (e.r : Int)) := h 12 _ (evL_tail d6 4)
theorem rg_f (h : W.rangeAt b o (evL e)) (d6 : e.d.length = 6) : W.cell? ⟨b, o + 13, none⟩ = some (.int .u64 (e.f : Int)) := h 13 _ (evL_tail d6 5)
theorem rg_below {B : Nat} {L : List Value} (h : W.rangeAt b o L) (hb : Below B W W') (hB : b < B) : W'.rangeAt b o L := fun j v hj => (hb.cell (p := ⟨b, o + j, none⟩) hB).trans (h j v hj)
end
/-- an event that lies whole in a block. -/
structure EB (W : World) (g : Nat) (e : Ev) : Prop where
  blk : Blk W g 26 (evA e)
  d6 : e.d.length = 6
section
variable {W W' : World} {γ : Nat} {e : Ev}
theorem EB.rg (h : EB W γ e) : W.rangeAt γ 0 (evL e) := fun j v hj => by
  rw [Nat.zero_add, h.blk.cell]
  unfold evA
  rw [List.getElem?_toArray]; exact hj
theorem EB.o (h : EB W γ e) : W.cell? ⟨γ, 0, none⟩ = some (.int .i64 e.o) := rg_o h.rg
theorem EB.s (h : EB W γ e) : W.cell? ⟨γ, 1, none⟩ = some (.int .u64 (e.s : Int)) := rg_s h.rg
theorem EB.dl (h : EB W γ e) : W.rangeAt γ 2 (vecL e.d) := rg_dl h.rg
theorem EB.d (h : EB W γ e) (k : Nat) (hk : k < e.d.length) : W.cell? ⟨γ, 2 + k, none⟩ = some (.int .u64 ((e.d[k] : Nat) : Int)) := rg_d h.rg k hk
theorem EB.k (h : EB W γ e) : W.cell? ⟨γ, 8, none⟩ = some (.int .u8 (e.k : Int)) := rg_k h.rg h.d6
theorem EB.n (h : EB W γ e) : W.cell? ⟨γ, 9, none⟩ = some (.int .u64 (e.n : Int)) := rg_n h.rg h.d6
theorem EB.t (h : EB W γ e) : W.cell? ⟨γ, 10, none⟩ = some (.int .i64 e.t) := rg_t h.rg h.d6
theorem EB.a (h : EB W γ e) : W.cell? ⟨γ, 11, none⟩ = some (.int .i64 e.a) := rg_a h.rg h.d6
theorem EB.r (h : EB W γ e) : W.cell? ⟨γ, 12, none⟩ = some (.int .u64 (e.r : Int)) := rg_r h.rg h.d6
theorem EB.f (h : EB W γ e) : W.cell? ⟨γ, 13, none⟩ = some (.int .u64 (e.f : Int)) := rg_f h.rg h.d6
theorem EB.new (W : World) (h : e.d.length = 6) : EB (W.alloc (.cells (evA e) 26)) W.heap.size e := ⟨Blk.new W _ _, h⟩
theorem EB.drew (h : EB W γ e) : EB W.drew γ e := ⟨h.blk, h.d6⟩
theorem EB.drewN (h : EB W γ e) (n : Nat) : EB (W.drewN n) γ e := ⟨h.blk, h.d6⟩
theorem EB.alloc (h : EB W γ e) (o : Obj) : EB (W.alloc o) γ e := ⟨h.blk.alloc o, h.d6⟩
theorem EB.after (h : EB W γ e) (hb : Below W.heap.size W W') : EB W' γ e := ⟨h.blk.below hb h.blk.lt, h.d6⟩
theorem EB.far (h : EB W γ e) {p : Addr} (hp : γ ≠ p.block) (u : Value) : EB (W.setCell p u) γ e := ⟨h.blk.far hp u, h.d6⟩
theorem EB.load (h : EB W γ e) : (loadE (.pointer (some ⟨γ, 0, none⟩))).run Try.prog W = .ok (.agg (evA e)) W := run_loadE_mid h.d6 h.rg
end
/-! what may be. -/
def regE (z : Int) : Bool := decide (1 ≤ z) && decide (z ≤ 6)
def amtE (a lo : Int) : Bool := decide (lo ≤ a) && decide (a ≤ 1125899906842624)
def othE (e : Ev) : Bool := regE e.t && !(e.t == e.o)
attribute [local go_sem ↓] exec_loadE exec_storeE exec_allocE exec_buildE
theorem eregion_any (z : Int) (w : World) : Calls Try.prog 57 #[.int .i64 z] w fun e w' => e = .returned (.bool (regE z)) ∧ w = w' := by
  by_cases h1 : 1 ≤ z
  case' neg => have hv : regE z = false := by simp [regE, h1]
  case' pos =>
    by_cases h2 : z ≤ 6
    case' neg => have hv : regE z = false := by simp [regE, h2]
    case' pos => have hv : regE z = true := by simp [regE, h1, h2]
  all_goals
    rw [hv]
    clear hv
    go_enter Try.func57, Try.ntmps57
    go_wp2_with fail
    go_ret
    exact ⟨rfl, rfl⟩
set_option maxRecDepth 20000 in
theorem amount_any (e : Ev) (d6 : e.d.length = 6) (lo : Int) (w : World) : Calls Try.prog 92 #[.agg (evA e), .int .i64 lo] w fun x w' => x = .returned (.bool (amtE e.a lo)) ∧ Below w.heap.size w w' := by
  have hb := (Below.refl w.heap.size w).alloc (Nat.le_refl _) (.cells (evA e) 26)
  have ca := (EB.new w d6).a
  by_cases h1 : lo ≤ e.a
  case' neg => have hv : amtE e.a lo = false := by simp [amtE, h1]
  case' pos =>
    by_cases h2 : e.a ≤ 1125899906842624
    case' neg => have hv : amtE e.a lo = false := by simp [amtE, h2]
    case' pos => have hv : amtE e.a lo = true := by simp [amtE, h1, h2]
  all_goals
    rw [hv]
    clear hv
    generalize e.a = z at *
    go_enter Try.func92, Try.ntmps92
    go_wp2_with fail
    go_ret
    exact ⟨rfl, hb⟩
set_option maxRecDepth 20000 in
theorem other_any (e : Ev) (d6 : e.d.length = 6) (w : World) : Calls Try.prog 93 #[.agg (evA e)] w fun x w' => x = .returned (.bool (othE e)) ∧ Below w.heap.size w w' := by
  have hb := (Below.refl w.heap.size w).alloc (Nat.le_refl _) (.cells (evA e) 26)
  have ct := (EB.new w d6).t
  have co := (EB.new w d6).o
  have hr := eregion_any e.t
  cases h1 : regE e.t
  case' false => have hv : othE e = false := by simp [othE, h1]
  case' true =>
    by_cases h2 : e.t = e.o
    case' pos =>
      have hv : othE e = false := by simp [othE, h2]
      have h3 : (e.t != e.o) = false := by simpa using h2
      clear h2
    case' neg =>
      have hv : othE e = true := by simp [othE, h1, h2]
      have h3 : (e.t != e.o) = true := by simpa using h2
      clear h2
  all_goals
    rw [hv]
    rw [h1] at hr
    have HR := Lib.hid hr
    clear hv hr h1
    generalize e.t = z at *
    generalize e.o = y at *
    go_enter Try.func93, Try.ntmps93
    go_wp2_with fail
    refine (HR.out _).mono ?_
    rintro _ w2 ⟨rfl, rfl⟩
    go_wp2_with fail
    go_ret
    exact ⟨rfl, hb⟩
end Go.Proofs.Ytjihbjjekhncaaa
