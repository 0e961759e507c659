import Derived.Test.YtdliklkfhakmhaaGosC
namespace Go.Proofs.Ytdliklkfhakmhaa
open Go.RowKit
attribute [local go_sem ↓] exec_loadV exec_storeV exec_buildV Go.wp_at_zero Go.wp_at_succ
/-! gossip: the chapter's example. -/
def K0 : List (List Nat) := [Z6, Z6, Z6, Z6, Z6, Z6]
theorem six0 : Six6 K0 := ⟨rfl, by decide⟩
theorem gnew_any (w : World) : Calls Try.prog 37 #[] w fun e w' => e = .returned (.pointer (some ⟨w.heap.size, 0, none⟩)) ∧ w.alloc (.cells (peersA K0) 88) = w' := by
  go_enter Try.func37, Try.ntmps37
  go_wp2_with fail
  go_ret
  exact ⟨rfl, rfl⟩
def K1 : List (List Nat) := [Z6, [3, 1, 0, 0, 0, 0], Z6, Z6, Z6, Z6]
def K2 : List (List Nat) := [Z6, [3, 4, 0, 0, 0, 0], Z6, Z6, Z6, Z6]
theorem six1 : Six6 K1 := ⟨rfl, by decide⟩
theorem six2 : Six6 K2 := ⟨rfl, by decide⟩
theorem nums_blk {W : World} {g : Nat} {t : TypeId} {zs : List Int} (hB : Blk W g t (zs.map (Value.int .i64)).toArray) : Nums W W.heap.size (some ⟨g, 0, none⟩) zs := fun _ =>
  ⟨g, 0, rfl, hB.lt, fun i z hi => by rw [hB.cell, Nat.zero_add]; simp [hi]⟩
theorem gtold_yes (g : Nat) (t : TypeId) (K : List (List Nat)) (hK : Six6 K) (k : Nat) (hk : k < 6) (L : List Nat) (hL : K[k]? = some L) (V : List Nat) (hV : V.length = 6) (w : World) (hB : Blk w g t (peersA K)) (K' : List (List Nat)) (hK' : K.set k (joinV [L, V]) = K') (z : Int) (hz : (k : Int) + 1 = z) :
    Calls Try.prog 39 #[.pointer (some ⟨g, 0, none⟩), .int .i64 z, .agg (vecA V)] w fun e w' => e = .returned (.int .i64 0) ∧ Blk w' g t (peersA K') ∧ w.grownBy w' (some g) := by
  subst hK' hz
  exact told_yes g t K hK k hk L hL V hV w hB
theorem gworks_any (w : World) : Calls Try.prog 36 #[] w fun e w' => e = .returned (.bool true) ∧ Below w.heap.size w w' := by
  have q1 : ∀ W, (Op.equalIn 10000 24 (.agg (vecA [3, 4, 0, 0, 0, 0])) (.agg #[.int .u64 3, .int .u64 4, .int .u64 0, .int .u64 0, .int .u64 0, .int .u64 0])).run Try.prog W = .ok true W := vec_same (L := [3, 4, 0, 0, 0, 0]) (M := [3, 4, 0, 0, 0, 0]) rfl rfl
  have q2 : ∀ W, (Op.equalIn 10000 24 (.agg (vecA Z6)) (.agg #[.int .u64 0, .int .u64 0, .int .u64 0, .int .u64 0, .int .u64 0, .int .u64 0])).run Try.prog W = .ok true W := vec_same (L := Z6) (M := Z6) rfl rfl
  go_enter Try.func36, Try.ntmps36
  go_wp2_with fail
  refine (gnew_any _).mono ?_
  rintro e w1 ⟨rfl, rfl⟩
  have B1 := Blk.new w 88 (peersA K0)
  have z1 := (Below.refl w.heap.size w).alloc (Nat.le_refl _) (.cells (peersA K0) 88)
  go_wp2_with fail
  refine (gtold_yes w.heap.size _ K0 six0 1 (by decide) Z6 rfl [3, 1, 0, 0, 0, 0] rfl _ B1 K1 (by decide) 2 rfl).mono ?_
  rintro e w2 ⟨rfl, B2, G2⟩
  have z2 := z1.grown G2 (by simp) (fun k hk => by injection hk with hk; omega)
  clear B1 z1 G2
  go_wp2_with fail
  refine (gtold_yes w.heap.size _ K1 six1 1 (by decide) [3, 1, 0, 0, 0, 0] rfl [1, 4, 0, 0, 0, 0] rfl _ B2 K2 (by decide) 2 rfl).mono ?_
  rintro e w3 ⟨rfl, B3, G3⟩
  have z3 := z2.grown G3 z2.size (fun k hk => by injection hk with hk; omega)
  clear B2 z2 G3
  go_wp2_with fail
  refine (told_no w.heap.size 0 (.inl (by omega)) Z6 w3).mono ?_
  rintro e w4 ⟨rfl, hb⟩
  have B4 := B3.below hb B3.lt
  have z4 := z3.trans (hb.mono z3.size)
  clear B3 z3 hb
  go_wp2_with fail
  have P4 : PeerAt w4 (some ⟨w.heap.size, 0, none⟩) (some K2) := .inr ⟨_, _, K2, rfl, rfl, six2, B4⟩
  refine (of_any P4 2).mono ?_
  rintro e w5 ⟨rfl, hb⟩
  rw [show ofV (some K2) 2 = [3, 4, 0, 0, 0, 0] by decide]
  have P5 := P4.below hb
  have z5 := z4.trans (hb.mono z4.size)
  clear B4 P4 z4 hb
  go_wp2_with fail
  have N5 : Nums (w5.alloc (.cells #[.int .i64 2, .int .i64 3] 3)) (w5.alloc (.cells #[.int .i64 2, .int .i64 3] 3)).heap.size (some ⟨w5.heap.size, 0, none⟩) [2, 3] := nums_blk (Blk.new w5 3 #[.int .i64 2, .int .i64 3])
  have P6 := P5.below ((Below.refl w5.heap.size w5).alloc (Nat.le_refl _) (.cells #[.int .i64 2, .int .i64 3] 3))
  have z6 := z5.alloc z5.size (.cells #[.int .i64 2, .int .i64 3] 3)
  refine (least_any _ 2 2 [2, 3] _ P6 N5 rfl (by decide)).mono ?_
  rintro e w7 ⟨rfl, hb⟩
  rw [show meetV (List.map (ofV (some K2)) [2, 3]) = Z6 by decide]
  have P7 := P6.below hb
  have z7 := z6.trans (hb.mono z6.size)
  clear N5 P5 P6 z5 z6 hb
  go_wp2_with fail
  have N7 : Nums (w7.alloc (.cells #[.int .i64 2] 3)) (w7.alloc (.cells #[.int .i64 2] 3)).heap.size (some ⟨w7.heap.size, 0, none⟩) [2] := nums_blk (Blk.new w7 3 #[.int .i64 2])
  have P8 := P7.below ((Below.refl w7.heap.size w7).alloc (Nat.le_refl _) (.cells #[.int .i64 2] 3))
  have z8 := z7.alloc z7.size (.cells #[.int .i64 2] 3)
  refine (least_any _ 1 1 [2] _ P8 N7 rfl (by decide)).mono ?_
  rintro e w9 ⟨rfl, hb⟩
  rw [show meetV (List.map (ofV (some K2)) [2]) = [3, 4, 0, 0, 0, 0] by decide]
  have z9 := z8.trans (hb.mono z8.size)
  clear N7 P7 P8 z7 z8 hb
  go_wp2_with fail
  go_ret
  exact ⟨rfl, z9⟩
end Go.Proofs.Ytdliklkfhakmhaa
