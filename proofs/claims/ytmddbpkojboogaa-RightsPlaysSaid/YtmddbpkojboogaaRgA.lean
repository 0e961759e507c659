import Derived.Test.YtmddbpkojboogaaRgM
import Derived.Test.YtmddbpkojboogaaVecG
import Derived.BigRegion
import Derived.BigQuiet
namespace Go.Proofs.Ytmddbpkojboogaa
open Go.RowKit
/-! rights as a block of 54 cells. -/
def rgtA (L : List Int) : Array Value := (L.map fun x : Int => Value.int .i64 x).toArray
theorem rgtA_size (L : List Int) : (rgtA L).size = L.length := by simp [rgtA]
theorem rgtA_at (L : List Int) (k : Nat) (h : k < L.length) : (rgtA L)[k]? = some (.int .i64 (L.getD k 0)) := by simp [rgtA, h]
theorem rgtA_one (L : List Int) : (rgtA L).all (·.oneCell') = true := by simp [rgtA, Value.oneCell']
theorem rgtA_set (L : List Int) (k : Nat) (x : Int) : (rgtA L).setIfInBounds k (.int .i64 x) = rgtA (L.set k x) := by unfold rgtA; simp [List.map_set]
theorem infoR : (Try.prog.info? 42).map (·.size) = some 54 := by kernel_rfl
theorem infoR_of {L : List Int} (h : L.length = 54) : (Try.prog.info? 42).map (·.size) = some (rgtA L).size := by rw [rgtA_size, h]; exact infoR
/-- rights that lie whole in a block. -/
structure RB (W : World) (g : Nat) (L : List Int) : Prop where
  blk : Blk W g 42 (rgtA L)
  len : L.length = 54
section
variable {W W' : World} {γ : Nat} {L : List Int}
theorem RB.at_ (h : RB W γ L) (k : Nat) (hk : k < 54) : W.cell? ⟨γ, k, none⟩ = some (.int .i64 (L.getD k 0)) := by
  rw [h.blk.cell]; exact rgtA_at L k (by rw [h.len]; exact hk)
theorem RB.g (h : RB W γ L) (k : Nat) (hk : k < 6) : W.cell? ⟨γ, k, none⟩ = some (.int .i64 (gR L k)) := h.at_ k (by omega)
theorem RB.c (h : RB W γ L) (k : Nat) (hk : k < 6) : W.cell? ⟨γ, 6 + k, none⟩ = some (.int .i64 (cR L k)) := h.at_ _ (by omega)
theorem RB.f (h : RB W γ L) (k : Nat) (hk : k < 6) : W.cell? ⟨γ, 12 + k, none⟩ = some (.int .i64 (fR L k)) := h.at_ _ (by omega)
theorem RB.r (h : RB W γ L) (i j : Nat) (hi : i < 6) (hj : j < 6) : W.cell? ⟨γ, 18 + i * 6 + j, none⟩ = some (.int .i64 (rR L i j)) := h.at_ _ (by omega)
theorem RB.new (W : World) (h : L.length = 54) : RB (W.alloc (.cells (rgtA L) 42)) W.heap.size L := ⟨Blk.new W _ _, h⟩
theorem RB.drew (h : RB W γ L) : RB W.drew γ L := ⟨h.blk, h.len⟩
theorem RB.drewN (h : RB W γ L) (n : Nat) : RB (W.drewN n) γ L := ⟨h.blk, h.len⟩
theorem RB.alloc (h : RB W γ L) (o : Obj) : RB (W.alloc o) γ L := ⟨h.blk.alloc o, h.len⟩
theorem RB.below {B : Nat} (h : RB W γ L) (hb : Below B W W') (hg : γ < B) : RB W' γ L := ⟨h.blk.below hb hg, h.len⟩
theorem RB.after (h : RB W γ L) (hb : Below W.heap.size W W') : RB W' γ L := ⟨h.blk.below hb h.blk.lt, h.len⟩
theorem RB.put (h : RB W γ L) (k : Nat) (x : Int) : RB (W.setCell ⟨γ, k, none⟩ (.int .i64 x)) γ (L.set k x) := by
  refine ⟨?_, by rw [List.length_set, h.len]⟩
  have := h.blk.set_ k (.int .i64 x)
  rwa [rgtA_set] at this
theorem RB.far (h : RB W γ L) {p : Addr} (hp : γ ≠ p.block) (u : Value) : RB (W.setCell p u) γ L := ⟨h.blk.far hp u, h.len⟩
end
/-! whole loads and stores, veiled. -/
def loadR (p : Value) : Sem Value := Instr.loadAt 42 p
def storeR (p v : Value) : Sem Unit := Instr.storeAt 42 p v
theorem exec_loadR (ρ : Operand → Value) (dst : Option Tmp) (x : Operand) (ty : TypeId) (pos : String) (after : Array Edge) (guard : Option (Nat × Bool)) :
    execOp ρ ⟨dst, .load 42 x, ty, pos, after, guard⟩ = (do pure (.value (← loadR (ρ x)))) := rfl
theorem exec_storeR (ρ : Operand → Value) (dst : Option Tmp) (x y : Operand) (ty : TypeId) (pos : String) (after : Array Edge) (guard : Option (Nat × Bool)) :
    execOp ρ ⟨dst, .store 42 x y, ty, pos, after, guard⟩ = (do storeR (ρ x) (ρ y); pure .skip) := rfl
theorem run_loadR {W : World} {g : Nat} {L : List Int} (h : RB W g L) : (loadR (.pointer (some ⟨g, 0, none⟩))).run Try.prog W = .ok (.agg (rgtA L)) W := by
  have := run_loadVar_row W g 42 42 (rgtA L) (0, 0) _ h.blk Try.underlying42 rfl (infoR_of h.len)
  unfold loadR Instr.loadAt
  simp only [Instr.sureAddr, Sem.run_bind, Sem.run_pure, Result.andThen_ok, this]
theorem run_storeR {W : World} {g : Nat} {L : List Int} {old : Array Value} (hL : L.length = 54) (h : W.heap[g]? = some (.cells old 42 (0, 0))) (hold : old.size = 54) :
    (storeR (.pointer (some ⟨g, 0, none⟩)) (.agg (rgtA L))).run Try.prog W = .ok () (W.setRow g (rgtA L)) := by
  have h1 : old.size = (rgtA L).size := by rw [rgtA_size, hL, hold]
  have := run_storeVar_row W g 42 42 old (rgtA L) h (infoR_of hL) h1 (rgtA_one L)
  unfold storeR Instr.storeAt
  simp only [Instr.sureAddr, Sem.run_bind, Sem.run_pure, Result.andThen_ok, this]
/-! ### a slice of numbers -/
def Ints (w : World) (B : Nat) (A : Option Addr) (xs : List Int) : Prop := Reads w B 1 A xs.length (xs.map fun x : Int => Value.int .i64 x)
theorem Ints.at_ {w : World} {B : Nat} {A : Option Addr} {xs : List Int} (h : Ints w B A xs) {k : Nat} (hk : k < xs.length) :
    ∃ b off, A = some ⟨b, off, none⟩ ∧ b < B ∧ w.cell? ⟨b, off + k, none⟩ = some (.int .i64 xs[k]) := by
  obtain ⟨⟨b, off, spot⟩, hA, hb, hc⟩ := h.2 (by omega)
  have hat : ∀ j (hj : j < xs.length), (xs.map fun x : Int => Value.int .i64 x)[j]? = some (.int .i64 xs[j]) := fun j hj => by simp [hj]
  have c0 := hc 0 _ (hat 0 (by omega))
  have h0 : spot = none := by simpa [Addr.add] using World.cell?_spot c0
  subst h0
  refine ⟨b, off, hA, hb, ?_⟩
  rw [← hc k _ (hat k hk)]
  congr 1
  unfold Addr.add
  split <;> simp_all
theorem all_fst {α : Type} {p : α → Bool} (l : List α) (k : Nat) (h : k < l.length) (hp : p l[k] = false) : l.all p = false := by
  rw [List.all_eq_false]
  exact ⟨l[k], List.getElem_mem h, by rw [hp]; simp⟩
def AmtTo (xs : List Int) (k : Nat) : Prop := (xs.take k).all amtB = true
theorem AmtTo.step {xs : List Int} {k : Nat} (h : AmtTo xs k) (hk : k < xs.length) (hx : amtB xs[k] = true) : AmtTo xs (k + 1) := by
  unfold AmtTo at h ⊢
  rw [List.take_succ_eq_append_getElem hk, List.all_append, h]; simp [hx]
set_option maxRecDepth 20000 in
theorem amounts_any (A : Option Addr) (n c : Nat) (xs : List Int) (w : World) (h : Ints w w.heap.size A xs) (hn : n = xs.length) (hmx : n ≤ 1099511627776) :
    Calls Try.prog 43 #[.slice A n c] w fun e w' => e = .returned (.bool (xs.all amtB)) ∧ w = w' := by
  have HN := Lib.hid hn
  clear hn
  go_enter Try.func43, Try.ntmps43
  go_wp2_with fail
  go_loopw [7] (fun i wr => ∃ k : Nat, k ≤ n ∧ i = .int .i64 k ∧ AmtTo xs k ∧ wr = w) (fun i _ => n - (intOf i).toNat)
  case atStart => exact ⟨0, by omega, rfl, rfl, rfl⟩
  case round =>
    obtain ⟨k, hk, rfl, hall, rfl⟩ := hrel
    by_cases hlt : k < n
    · have hkx : k < xs.length := by rw [← HN.out]; exact hlt
      obtain ⟨b, off, rfl, hB, hc⟩ := Ints.at_ h hkx
      have HNO := Lib.hid (all_fst (p := amtB) xs k hkx)
      have HYES := Lib.hid (hall.step hkx)
      generalize xs[k] = x at hc HNO HYES
      by_cases h0 : x < 0
      · have hv : Hid (xs.all amtB = false) := HNO.out (by simp [amtB]; omega)
        clear HNO HYES hall h
        go_wp2_with fail
        go_ret
        exact ⟨by rw [hv.out]; rfl, rfl⟩
      · by_cases h1 : 1125899906842624 < x
        · have hv : Hid (xs.all amtB = false) := HNO.out (by simp [amtB]; omega)
          clear HNO HYES hall h
          go_wp2_with fail
          go_ret
          exact ⟨by rw [hv.out]; rfl, rfl⟩
        · have hnext : AmtTo xs (k + 1) := HYES.out (by simp [amtB]; omega)
          clear HYES HNO hall
          go_wp2_with fail
          go_roundw
          case rel => exact ⟨k + 1, by omega, by go_num, hnext, trivial⟩
          case measure => simp [intOf]; omega
    · obtain rfl : k = n := by omega
      have hv : Hid (xs.all amtB = true) := by show _ = _; have := hall; unfold AmtTo at this; rwa [List.take_of_length_le (by rw [HN.out]; omega)] at this
      clear hall
      go_wp2_with fail
      go_ret
      exact ⟨by rw [hv.out]; rfl, rfl⟩
end Go.Proofs.Ytmddbpkojboogaa
