import Derived.Test.YtdliklkfhakmhaaGosA
import Derived.Deep.RegionWith
namespace Go.Proofs.Ytdliklkfhakmhaa
open Go.RowKit
attribute [local go_sem ↓] exec_loadV exec_storeV exec_buildV Go.wp_at_zero Go.wp_at_succ
theorem grown_of_below {w w' : World} (h : Below w.heap.size w w') (row : Option Nat) : w.grownBy w' row := ⟨h.os, h.tape, h.output, h.size, fun k hk _ => h.block k hk⟩
theorem heap_cells_far {g k : Nat} (hk : k ≠ g) : ∀ (vs : List Value) (o : Nat) (W : World), (W.setCells g o vs).heap[k]? = W.heap[k]?
  | [], _, _ => rfl
  | v :: r, o, W => by
    show ((W.setCell ⟨g, o, none⟩ v).setCells g (o + 1) r).heap[k]? = _
    rw [heap_cells_far hk r (o + 1) _]
    simp [World.setCell, Array.getElem?_modify, Ne.symm hk]
theorem cells_world (g : Nat) : ∀ (vs : List Value) (o : Nat) (W : World), (W.setCells g o vs).os = W.os ∧ (W.setCells g o vs).tape = W.tape ∧ (W.setCells g o vs).output = W.output ∧ (W.setCells g o vs).heap.size = W.heap.size
  | [], _, _ => ⟨rfl, rfl, rfl, rfl⟩
  | v :: r, o, W => by
    have h := cells_world g r (o + 1) (W.setCell ⟨g, o, none⟩ v)
    exact ⟨h.1, h.2.1, h.2.2.1, by rw [show (W.setCells g o (v :: r)) = ((W.setCell ⟨g, o, none⟩ v).setCells g (o + 1) r) from rfl, h.2.2.2]; simp [World.setCell]⟩
theorem grown_setCells {w w' : World} {g : Nat} (h : w.grownBy w' (some g)) (o : Nat) (vs : List Value) : w.grownBy (w'.setCells g o vs) (some g) := by
  obtain ⟨h1, h2, h3, h4⟩ := cells_world g vs o w'
  exact ⟨h1.trans h.os, h2.trans h.tape, h3.trans h.output, by rw [h4]; exact h.size, fun k hk hne => by
    rw [heap_cells_far (fun e => hne (by rw [e]))]; exact h.block k hk hne⟩
theorem Blk.grown {w w' : World} {b g : Nat} {t : TypeId} {cs : Array Value} (h : Blk w b t cs) (hg : w.grownBy w' (some g)) (hne : b ≠ g) : Blk w' b t cs :=
  (hg.block b h.lt (fun e => hne (by injection e))).trans h
theorem told_nil (z : Int) (V : List Nat) (w : World) : Calls Try.prog 39 #[.pointer none, .int .i64 z, .agg (vecA V)] w fun e w' => e = .returned (.int .i64 2) ∧ Below w.heap.size w w' := by
  have hb := (Below.refl w.heap.size w).alloc (Nat.le_refl _) (.cells (vecA V) 24)
  go_enter Try.func39, Try.ntmps39
  go_wp2_with fail
  go_ret
  exact ⟨rfl, hb⟩
theorem told_no (g : Nat) (z : Int) (hz : z < 1 ∨ 6 < z) (V : List Nat) (w : World) : Calls Try.prog 39 #[.pointer (some ⟨g, 0, none⟩), .int .i64 z, .agg (vecA V)] w fun e w' => e = .returned (.int .i64 10) ∧ Below w.heap.size w w' := by
  have hb := (Below.refl w.heap.size w).alloc (Nat.le_refl _) (.cells (vecA V) 24)
  go_enter Try.func39, Try.ntmps39
  go_wp2_with fail
  refine (greg_no z hz _).mono ?_
  rintro e w1 ⟨rfl, rfl⟩
  go_wp2_with fail
  go_ret
  exact ⟨rfl, hb⟩
structure TS (w W : World) (g : Nat) (t : TypeId) (K : List (List Nat)) (gv : Nat) (V : List Nat) : Prop where
  a : Blk W g t (peersA K)
  b : Blk W gv 24 (vecA V)
  z : Below w.heap.size w W
theorem TS.drew {w W : World} {g : Nat} {t : TypeId} {K : List (List Nat)} {gv : Nat} {V : List Nat} (h : TS w W g t K gv V) : TS w W.drew g t K gv V := ⟨h.a.drew, h.b.drew, h.z.drew⟩
theorem TS.alloc {w W : World} {g : Nat} {t : TypeId} {K : List (List Nat)} {gv : Nat} {V : List Nat} (h : TS w W g t K gv V) (o : Obj) : TS w (W.alloc o) g t K gv V := ⟨h.a.alloc o, h.b.alloc o, h.z.alloc h.z.size o⟩
theorem TS.next {w W W' : World} {g : Nat} {t : TypeId} {K : List (List Nat)} {gv : Nat} {V : List Nat} (h : TS w W g t K gv V) (hb : Below W.heap.size W W') : TS w W' g t K gv V := ⟨h.a.below hb h.a.lt, h.b.below hb h.b.lt, h.z.trans (hb.mono h.z.size)⟩
set_option maxRecDepth 100000 in
theorem told_yes (g : Nat) (t : TypeId) (K : List (List Nat)) (hK : Six6 K) (k : Nat) (hk : k < 6) (L : List Nat) (hL : K[k]? = some L) (V : List Nat) (hV : V.length = 6) (w : World) (hB : Blk w g t (peersA K)) :
    Calls Try.prog 39 #[.pointer (some ⟨g, 0, none⟩), .int .i64 ((k : Int) + 1), .agg (vecA V)] w fun e w' => e = .returned (.int .i64 0) ∧ Blk w' g t (peersA (K.set k (joinV [L, V]))) ∧ w.grownBy w' (some g) := by
  have h6 := Lib.hid (hK.each L (List.mem_of_getElem? hL))
  have hV6 := Lib.hid hV
  obtain ⟨J, eJ⟩ : ∃ J, Hid (joinV [L, V] = J) := ⟨_, Lib.hid rfl⟩
  have hJ : Hid (J.length = 6) := by show _ = _; rw [← eJ.out]; exact joinV_len (by simp [hV, h6.out])
  have s1 : TS w (w.alloc (.cells (vecA V) 24)) g t K w.heap.size V := ⟨hB.alloc _, Blk.new w _ _, (Below.refl w.heap.size w).alloc (Nat.le_refl _) _⟩
  have l0 : ∀ W, TS w W g t K w.heap.size V → (loadV (.pointer (some ⟨g, k * 6, none⟩))).run Try.prog W = .ok (.agg (vecA L)) W := fun W h => run_loadV_mid h6.out (peers_range hK h.a k hk L hL)
  have l1 : ∀ W, TS w W g t K w.heap.size V → (loadV (.pointer (some ⟨w.heap.size, 0, none⟩))).run Try.prog W = .ok (.agg (vecA V)) W := fun W h => run_loadV hV6.out h.b
  have b0 : ∀ W : World, (buildV 2 #[(0, .agg (vecA L)), (1, .agg (vecA V))]).run Try.prog W = _ := fun W => run_buildV (W := W) h6.out hV6.out
  have st : ∀ W, TS w W g t K w.heap.size V → (storeV (.pointer (some ⟨g, k * 6, none⟩)) (.agg (vecA J))).run Try.prog W = .ok () (W.setCells g (k * 6) (vecL J)) := fun W h => run_storeV_mid hJ.out (peers_there hK h.a k hk)
  have fin : ∀ W, TS w W g t K w.heap.size V → Blk (W.setCells g (k * 6) (vecL J)) g t (peersA (K.set k J)) ∧ w.grownBy (W.setCells g (k * 6) (vecL J)) (some g) := fun W h => by
    refine ⟨?_, grown_setCells (grown_of_below h.z _) _ _⟩
    rw [← peers_set hK k hk J hJ.out]
    exact Blk.cells (W := W) _ _ _ _ h.a
  have dr : ∀ W, TS w W g t K w.heap.size V → TS w W.drew g t K w.heap.size V := fun W h => h.drew
  have al : ∀ W o, TS w W g t K w.heap.size V → TS w (W.alloc o) g t K w.heap.size V := fun W o h => h.alloc o
  have FIN := Lib.hid fin
  rw [eJ.out]
  have k0 : (0 : Int) ≤ (k : Int) := by omega
  have k1 : (k : Int) < 6 := by omega
  have kw : IntKind.i64.wrap (k : Int) = (k : Int) := IntWalk.i64_in _ (by omega)
  clear hL hV hB fin
  go_enter Try.func39, Try.ntmps39
  go_wp2_with fail
  refine (greg_yes k hk _).mono ?_
  rintro e w1 ⟨rfl, rfl⟩
  go_wp2_with fail
  go_region_with (first
    | (go_at_call 28; (with_reducible refine (join_two L V h6.out hV6.out _ _ _ ?_).mono ?_); (focus ((repeat (first | exact Blk.at_ _ _ _ _ (by first | rfl | simp) | refine Blk.drew ?_ | refine Blk.alloc ?_ _ | refine Blk.after (by assumption) ?_)); done)); rintro e w9 ⟨rfl, hb⟩; rw [eJ.out]; have s9 := TS.next (TS.drew (TS.alloc s1 _)) hb))
  all_goals
    go_wp2_with fail
    go_ret
    exact ⟨rfl, FIN.out _ (by assumption)⟩
end Go.Proofs.Ytdliklkfhakmhaa
