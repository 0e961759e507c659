import Derived.Test.YtmddbpkojboogaaRgB
import Derived.Test.YtmddbpkojboogaaPlanV
namespace Go.Proofs.Ytmddbpkojboogaa
open Go.RowKit
/-! slices of numbers in regions that draw their order. -/
def IntsV (xs : List Int) : Value → World → Prop := fun v W => ∃ A n c, v = .slice A n c ∧ n = xs.length ∧ Ints W W.heap.size A xs
theorem Ints.next {W W' : World} {A : Option Addr} {xs : List Int} (h : Ints W W.heap.size A xs) (hb : Below W.heap.size W W') : Ints W' W'.heap.size A xs := (Reads.below h hb).more hb.size
theorem stab_ints {S : World → Prop} (xs : List Int) : ∀ v w w', S w → S w' → Grows w w' → IntsV xs v w → IntsV xs v w' := fun _ _ _ _ _ hR ⟨A, n, c, hv, hn, hB⟩ => ⟨A, n, c, hv, hn, hB.next hR⟩
theorem ints_const (w : World) (xs : List Int) (t : TypeId) (fr : Nat × Nat) : Ints (w.alloc (.cells (xs.map fun x : Int => Value.int .i64 x).toArray t fr)) (w.alloc (.cells (xs.map fun x : Int => Value.int .i64 x).toArray t fr)).heap.size (some ⟨w.heap.size, 0, none⟩) xs := by
  refine ⟨by simp, fun _ => ⟨_, rfl, by simp, fun j u hu => ?_⟩⟩
  have hadd : (⟨w.heap.size, 0, none⟩ : Addr).add j = ⟨w.heap.size, j, none⟩ := by unfold Addr.add; split <;> simp_all
  rw [hadd, World.cell?_alloc_mark]
  simpa using hu
theorem RB.row {W : World} {g : Nat} {L : List Int} (h : RB W g L) (k : Nat) (hk : k < 6) : Ints W W.heap.size (some ⟨g, 18 + k * 6, none⟩) (rowR L k) := by
  refine ⟨rfl, fun _ => ⟨_, rfl, h.blk.lt, fun j u hu => ?_⟩⟩
  rw [Addr.add_mid]
  match j, hu with
  | 0, hu => injection hu with hu; subst hu; exact h.r k 0 hk (by omega)
  | 1, hu => injection hu with hu; subst hu; exact h.r k 1 hk (by omega)
  | 2, hu => injection hu with hu; subst hu; exact h.r k 2 hk (by omega)
  | 3, hu => injection hu with hu; subst hu; exact h.r k 3 hk (by omega)
  | 4, hu => injection hu with hu; subst hu; exact h.r k 4 hk (by omega)
  | 5, hu => injection hu with hu; subst hu; exact h.r k 5 hk (by omega)
  | j + 6, hu => simp [rowR] at hu
theorem amounts_b (A : Option Addr) (n c : Nat) (xs : List Int) (w : World) (h : Ints w w.heap.size A xs) (hn : n = xs.length) (hmx : n ≤ 1099511627776) :
    Calls Try.prog 43 #[.slice A n c] w fun e w' => e = .returned (.bool (xs.all amtB)) ∧ Below w.heap.size w w' :=
  (amounts_any A n c xs w h hn hmx).mono (by rintro e w' ⟨h1, rfl⟩; exact ⟨h1, Below.refl _ _⟩)
/-- rights that lie whole in a block, and nothing that was there has changed. -/
structure RS (w W : World) (g : Nat) (L : List Int) : Prop where
  rb : RB W g L
  bel : Below w.heap.size w W
section
variable {w W W' : World} {γ : Nat} {L : List Int}
theorem RS.next (h : RS w W γ L) (hb : Below W.heap.size W W') : RS w W' γ L := ⟨h.rb.after hb, h.bel.trans (hb.mono h.bel.size)⟩
theorem RS.alloc (h : RS w W γ L) (o : Obj) : RS w (W.alloc o) γ L := ⟨h.rb.alloc o, h.bel.alloc h.bel.size o⟩
theorem RS.drew (h : RS w W γ L) : RS w W.drew γ L := ⟨h.rb.drew, h.bel.drew⟩
end
def OkTo (L : List Int) (k : Nat) : Prop := allTo (rowOK L) k = true
def LfTo (L : List Int) (k : Nat) : Prop := allTo (fun k => decide (0 ≤ leftR L k)) k = true
theorem OkTo.step {L : List Int} {k : Nat} (h : OkTo L k) (hr : rowOK L k = true) : OkTo L (k + 1) := by
  unfold OkTo at h ⊢; rw [allTo, h, hr]; rfl
theorem LfTo.step {L : List Int} {k : Nat} (h : LfTo L k) (hr : 0 ≤ leftR L k) : LfTo L (k + 1) := by
  unfold LfTo at h ⊢; rw [allTo, h, decide_eq_true hr]; rfl
theorem may_row {L : List Int} {k : Nat} (hk : k < 6) (h : rowOK L k = false) : mayR L = false := by
  unfold mayR; rw [allTo_no _ 6 k hk h]; rfl
theorem may_lf {L : List Int} {k : Nat} (hk : k < 6) (h : ¬ 0 ≤ leftR L k) : mayR L = false := by
  unfold mayR; rw [allTo_no (fun k => decide (0 ≤ leftR L k)) 6 k hk (decide_eq_false h), Bool.false_and, Bool.and_false]
theorem may_sum {L : List Int} (h1 : OkTo L 6) (h2 : LfTo L 6) : mayR L = decide (limitR L ≤ 1125899906842624) := by
  unfold mayR OkTo LfTo at *; rw [h1, h2]; rfl
theorem exec_build (ρ : Operand → Value) (dst : Option Tmp) (t : TypeId) (n : Nat) (parts : Array (Nat × Operand)) (ty : TypeId) (pos : String) (after : Array Edge) (guard : Option (Nat × Bool)) :
    execOp ρ ⟨dst, .buildSlice t n parts, ty, pos, after, guard⟩ = (do pure (.value (← Instr.buildSlice t n (parts.map fun x => (x.1, ρ x.2))))) := rfl
theorem run_build3 (W : World) (p q r : Int) : (Instr.buildSlice 62 3 #[(0, .int .i64 p), (1, .int .i64 q), (2, .int .i64 r)]).run Try.prog W = .ok (.slice (some ⟨W.heap.size, 0, none⟩) 3 3) (W.alloc (.cells #[.int .i64 p, .int .i64 q, .int .i64 r] 2)) := by
  go_simp
theorem ex_build3 {a : Act} {W : World} {dst : Option Tmp} {ty : TypeId} {pos : String} {after : Array Edge} {guard : Option (Nat × Bool)} {x y z : Operand} {p q r : Int}
    (hx : a.eval x = .int .i64 p) (hy : a.eval y = .int .i64 q) (hz : a.eval z = .int .i64 r) :
    (execOp a.eval ⟨dst, .buildSlice 62 3 #[(0, x), (1, y), (2, z)], ty, pos, after, guard⟩).run Try.prog W = .ok (.value (.slice (some ⟨W.heap.size, 0, none⟩) 3 3)) (W.alloc (.cells #[.int .i64 p, .int .i64 q, .int .i64 r] 2)) := by
  rw [exec_build]
  have hm : (#[(0, x), (1, y), (2, z)] : Array (Nat × Operand)).map (fun x => (x.1, a.eval x.2)) = #[(0, .int .i64 p), (1, .int .i64 q), (2, .int .i64 r)] := by simp [hx, hy, hz]
  rw [hm]; simp only [Sem.run_bind, run_build3, Result.andThen_ok, Sem.run_pure]
end Go.Proofs.Ytmddbpkojboogaa
