import Derived.Test.YtbfdliogpheekaaCrcD
namespace Go.Proofs.Ytbfdliogpheekaa
open Go.RowKit
theorem val_none : U (~~~ Cm.more (~~~ 0#32) (wide [])) = 0 := by decide +kernel
theorem val_a : U (~~~ Cm.more (~~~ 0#32) (wide [97])) = 3904355907 := by decide +kernel
theorem val_9 : U (~~~ Cm.more (~~~ 0#32) (wide [49, 50, 51, 52, 53, 54, 55, 56, 57])) = 3421780262 := by decide +kernel
theorem val_join : U (~~~ Cm.steps (8 * (5 : Int).toNat) (~~~ (~~~ Cm.more (~~~ 0#32) (wide [49, 50, 51, 52]))) ^^^ ~~~ Cm.steps (8 * (5 : Int).toNat) (~~~ 0#32) ^^^ ~~~ Cm.more (~~~ 0#32) (wide [53, 54, 55, 56, 57])) = 3421780262 := by decide +kernel
set_option maxHeartbeats 400000 in
theorem works_any (w : World) :
    Calls Try.prog 34 #[] w fun e w' => e = .returned (.bool true) ∧ Below w.heap.size w w' := by
  have kc := fun (w : World) (C : Array Value) (n c : Nat) => Lib.run_convert_bytes_const (P := Try.prog) w 22 5 C n c Try.underlying22 Try.underlying5
  go_enter Try.func34, Try.ntmps34
  go_wp2_with fail
  refine (sum_any none 0 [] _ Reads.none_ (by decide)).mono ?_
  rintro e w1 ⟨rfl, rfl⟩
  rw [val_none]
  go_wp2_with fail
  refine (sum_any (some ⟨w.heap.size, 0, none⟩) 1 [97] _ (bytes_const w [97] 5 (1, 2)) (by decide)).mono ?_
  rintro e w1 ⟨rfl, rfl⟩
  rw [val_a]
  have hb1 := (Below.refl w.heap.size w).alloc (Nat.le_refl _) (.cells (bv [97]).toArray 5 (1, 2))
  generalize w.alloc (.cells (bv [97]).toArray 5 (1, 2)) = W1 at hb1 ⊢
  have hs1 := hb1.size
  go_wp2_with fail
  refine (sum_any (some ⟨W1.heap.size, 0, none⟩) 9 [49, 50, 51, 52, 53, 54, 55, 56, 57] _ (bytes_const W1 _ 5 (9, 10)) (by decide)).mono ?_
  rintro e w1 ⟨rfl, rfl⟩
  rw [val_9]
  have hb2 := hb1.alloc hs1 (.cells (bv [49, 50, 51, 52, 53, 54, 55, 56, 57]).toArray 5 (9, 10))
  generalize W1.alloc (.cells (bv [49, 50, 51, 52, 53, 54, 55, 56, 57]).toArray 5 (9, 10)) = W2 at hb2 ⊢
  have hs2 := hb2.size
  clear hb1 hs1
  go_wp2_with fail
  refine (sum_any (some ⟨W2.heap.size, 0, none⟩) 4 [49, 50, 51, 52] _ (bytes_const W2 _ 5 (4, 5)) (by decide)).mono ?_
  rintro e w1 ⟨rfl, rfl⟩
  have hb3 := hb2.alloc hs2 (.cells (bv [49, 50, 51, 52]).toArray 5 (4, 5))
  generalize W2.alloc (.cells (bv [49, 50, 51, 52]).toArray 5 (4, 5)) = W3 at hb3 ⊢
  have hs3 := hb3.size
  clear hb2 hs2
  generalize hx : ~~~ Cm.more (~~~ 0#32) (wide [49, 50, 51, 52]) = x at ⊢
  have HX := Lib.hid hx
  clear hx
  go_wp2_with fail
  refine (sum_any (some ⟨W3.heap.size, 0, none⟩) 5 [53, 54, 55, 56, 57] _ (bytes_const W3 _ 5 (5, 6)) (by decide)).mono ?_
  rintro e w1 ⟨rfl, rfl⟩
  have hb4 := hb3.alloc hs3 (.cells (bv [53, 54, 55, 56, 57]).toArray 5 (5, 6))
  generalize W3.alloc (.cells (bv [53, 54, 55, 56, 57]).toArray 5 (5, 6)) = W4 at hb4 ⊢
  have hs4 := hb4.size
  clear hb3 hs3
  generalize hy : ~~~ Cm.more (~~~ 0#32) (wide [53, 54, 55, 56, 57]) = y at ⊢
  have HY := Lib.hid hy
  clear hy
  go_wp2_with fail
  refine (join_any x y 5 _ (by decide) (by decide)).mono ?_
  rintro e w5 ⟨rfl, hb5⟩
  rw [show U (~~~ Cm.steps (8 * (5 : Int).toNat) (~~~ x) ^^^ ~~~ Cm.steps (8 * (5 : Int).toNat) (~~~ 0#32) ^^^ y) = 3421780262 from by rw [← HX.out, ← HY.out]; exact val_join]
  clear HX HY
  go_wp2_with fail
  go_ret
  exact ⟨rfl, hb4.trans (hb5.mono hs4)⟩
end Go.Proofs.Ytbfdliogpheekaa
