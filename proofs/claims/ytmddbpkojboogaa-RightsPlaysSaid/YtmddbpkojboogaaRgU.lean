import Derived.Test.YtmddbpkojboogaaRgT
import Derived.Test.YtmddbpkojboogaaPlanC
namespace Go.Proofs.Ytmddbpkojboogaa
open Go.RowKit
/-! rights: a region that makes a step and keeps what it tells. -/
structure RG (w : World) (B0 : Nat) (l : List (Nat × List Int)) (W : World) : Prop where
  rs : Rs w W l
  size : B0 ≤ W.heap.size
  lt : ∀ p ∈ l, p.1 < B0
  b0 : w.heap.size ≤ B0
structure GA (w : World) (B0 : Nat) (l : List (Nat × List Int)) (slot : Nat) (A : List Int) (b9 b10 : Bool) (t : Array Value) (W : World) : Prop where
  base : RG w B0 l W
  new : b9 = true → ∃ g, t.getD slot undef = .pointer (some ⟨g, 0, none⟩) ∧ B0 ≤ g ∧ RB W g (cond b10 A Z54)
section
variable {w W W' : World} {B0 slot : Nat} {l : List (Nat × List Int)} {A : List Int} {b9 b10 : Bool}
theorem RG.start (h : Rs w W l) : RG w W.heap.size l W := ⟨h, Nat.le_refl _, fun p hp => (h.blk p hp).blk.lt, h.bel.size⟩
theorem RG.next (h : RG w B0 l W) (hb : Below W.heap.size W W') : RG w B0 l W' := ⟨h.rs.next hb, Nat.le_trans h.size hb.size, h.lt, h.b0⟩
theorem RG.drew (h : RG w B0 l W) : RG w B0 l W.drew := ⟨h.rs.drew, h.size, h.lt, h.b0⟩
theorem RG.row (h : RG w B0 l W) {g : Nat} (hg : B0 ≤ g) (cs : Array Value) : RG w B0 l (W.setRow g cs) := by
  refine ⟨⟨fun p hp => ?_, below_setRow h.rs.bel (Nat.le_trans h.b0 hg) cs⟩, by simpa using h.size, h.lt, h.b0⟩
  have := h.lt p hp
  exact ⟨(h.rs.blk p hp).blk.rowFar (by omega) cs, (h.rs.blk p hp).len⟩
theorem GA.put {a : Act} {dst : Option Tmp} {v : Value} (h : GA w B0 l slot A b9 b10 a.tmps W) (hd : dst ≠ some slot) : GA w B0 l slot A b9 b10 (a.put dst v).tmps W :=
  ⟨h.base, fun h9 => by obtain ⟨g, h1, h2, h3⟩ := h.new h9; exact ⟨g, (put_getD_far hd).trans h1, h2, h3⟩⟩
theorem GA.next {t : Array Value} (h : GA w B0 l slot A b9 b10 t W) (hb : Below W.heap.size W W') : GA w B0 l slot A b9 b10 t W' :=
  ⟨h.base.next hb, fun h9 => by obtain ⟨g, h1, h2, h3⟩ := h.new h9; exact ⟨g, h1, h2, h3.after hb⟩⟩
theorem GA.first {t : Array Value} (h : RG w B0 l W) : GA w B0 l slot A false false t W.drew := ⟨h.drew, fun h => by cases h⟩
theorem GA.alloc {a : Act} (h : GA w B0 l slot A b9 false a.tmps W) (hs : slot < a.tmps.size) : GA w B0 l slot A true false (a.put (some slot) (.pointer (some ⟨W.heap.size, 0, none⟩))).tmps (W.alloc (.cells (rgtA Z54) 42)) :=
  ⟨h.base.next ((Below.refl _ _).alloc (Nat.le_refl _) _), fun _ => ⟨W.heap.size, put_getD_at hs, h.base.size, RB.new W rfl⟩⟩
theorem GA.store {a : Act} {g : Nat} (h : GA w B0 l slot A true false a.tmps W) (hg : a.tmps.getD slot undef = .pointer (some ⟨g, 0, none⟩)) (hA : A.length = 54) : RB W g Z54 ∧ GA w B0 l slot A true true (a.put none undef).tmps (W.setRow g (rgtA A)) := by
  obtain ⟨g', h1, h2, h3⟩ := h.new rfl
  have e : g' = g := by rw [h1] at hg; injection hg with hg; injection hg with hg; injection hg
  subst e
  exact ⟨h3, h.base.row h2 _, fun _ => ⟨g', h1, h2, ⟨h3.blk.row (rgtA A), hA⟩⟩⟩
end
attribute [local go_sem ↓] exec_loadR exec_storeR exec_allocR exec_buildR
section
variable {a : Act} {W : World} {dst : Option Tmp} {ty : TypeId} {pos : String} {after : Array Edge} {guard : Option (Nat × Bool)}
theorem ex_allocR : (execOp a.eval ⟨dst, .alloc 42, ty, pos, after, guard⟩).run Try.prog W = .ok (.value (.pointer (some ⟨W.heap.size, 0, none⟩))) (W.alloc (.cells (rgtA Z54) 42)) := by
  rw [exec_allocR]; simp only [Sem.run_bind, run_allocR, Result.andThen_ok, Sem.run_pure]
theorem ex_storeR {x y : Operand} {g : Nat} {L M : List Int} (hx : a.eval x = .pointer (some ⟨g, 0, none⟩)) (hy : a.eval y = .agg (rgtA L)) (hL : L.length = 54) (h : RB W g M) :
    (execOp a.eval ⟨dst, .store 42 x y, ty, pos, after, guard⟩).run Try.prog W = .ok .skip (W.setRow g (rgtA L)) := by
  rw [exec_storeR, hx, hy]; simp only [Sem.run_bind, run_storeR hL h.blk (by rw [rgtA_size, h.len]), Result.andThen_ok, Sem.run_pure]
theorem ex_loadS {x : Operand} {b o : Nat} {s : RStep} (hx : a.eval x = .pointer (some ⟨b, o, none⟩)) (h : W.rangeAt b o (stepL s)) :
    (execOp a.eval ⟨dst, .load 49 x, ty, pos, after, guard⟩).run Try.prog W = .ok (.value (.agg (stepA s))) W := by
  have hl : (Instr.loadAt 49 (.pointer (some ⟨b, o, none⟩))).run Try.prog W = .ok (.agg (stepA s)) W :=
    run_loadAt_mid (P := Try.prog) W b o 49 (stepL s) _ h Try.underlying49 rfl infoS
  have e : execOp a.eval ⟨dst, .load 49 x, ty, pos, after, guard⟩ = (do pure (.value (← Instr.loadAt 49 (a.eval x)))) := rfl
  rw [e, hx]; simp only [Sem.run_bind, hl, Result.andThen_ok, Sem.run_pure]
end
end Go.Proofs.Ytmddbpkojboogaa
