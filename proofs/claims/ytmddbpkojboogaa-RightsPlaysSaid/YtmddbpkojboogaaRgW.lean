import Derived.Test.YtmddbpkojboogaaRgK
namespace Go.Proofs.Ytmddbpkojboogaa
open Go.RowKit
/-! rights: the chapter's example. -/
attribute [local go_sem ↓] exec_loadR exec_storeR exec_allocR exec_buildR
/-- rights in blocks of their own. -/
structure Rs (w W : World) (l : List (Nat × List Int)) : Prop where
  blk : ∀ p ∈ l, RB W p.1 p.2
  bel : Below w.heap.size w W
section
variable {w W W' : World} {l : List (Nat × List Int)}
theorem Rs.nil (w : World) : Rs w w [] := ⟨(fun p hp => by cases hp), Below.refl _ _⟩
theorem Rs.next (h : Rs w W l) (hb : Below W.heap.size W W') : Rs w W' l := ⟨fun p hp => (h.blk p hp).after hb, h.bel.trans (hb.mono h.bel.size)⟩
theorem Rs.alloc (h : Rs w W l) (o : Obj) : Rs w (W.alloc o) l := h.next ((Below.refl _ _).alloc (Nat.le_refl _) o)
theorem Rs.drew (h : Rs w W l) : Rs w W.drew l := ⟨fun p hp => (h.blk p hp).drew, h.bel.drew⟩
theorem Rs.drewN (h : Rs w W l) (n : Nat) : Rs w (W.drewN n) l := ⟨fun p hp => (h.blk p hp).drewN n, Below.drewM h.bel n⟩
theorem Rs.new (h : Rs w W l) {L : List Int} (hL : L.length = 54) (g : Nat) (hg : W.heap.size = g) : Rs w (W.alloc (.cells (rgtA L) 42)) (l ++ [(g, L)]) := by
  subst hg
  refine ⟨fun p hp => ?_, h.bel.alloc h.bel.size _⟩
  rcases List.mem_append.1 hp with hp | hp
  · exact (h.blk p hp).alloc _
  · rw [List.mem_singleton.1 hp]; exact RB.new W hL
theorem Rs.nth (h : Rs w W l) (i : Nat) {g : Nat} {L : List Int} (hi : l[i]? = some (g, L)) : RB W g L := h.blk _ (List.mem_of_getElem? hi)
theorem Rs.load (i : Nat) {g : Nat} {L : List Int} (hi : l[i]? = some (g, L)) : ∀ W, Rs w W l → (loadR (.pointer (some ⟨g, 0, none⟩))).run Try.prog W = .ok (.agg (rgtA L)) W := fun _ h => run_loadR (h.nth i hi)
end
theorem run_storeR_new {L : List Int} (hL : L.length = 54) (W : World) : (storeR (.pointer (some ⟨W.heap.size, 0, none⟩)) (.agg (rgtA L))).run Try.prog (W.alloc (.cells (rgtA Z54) 42)) = .ok () (W.alloc (.cells (rgtA L) 42)) := by
  rw [run_storeR hL (heap_alloc_new W _) rfl, setRow_new W W.heap.size rfl]
def X1 : List Int := Z54.set 0 10
def X2 : List Int := X1.set 19 4
def X3 : List Int := X2.set 7 4
theorem x1_len : X1.length = 54 := by kernel_rfl
theorem x2_len : X2.length = 54 := by kernel_rfl
theorem x3_len : X3.length = 54 := by kernel_rfl
theorem x1 : giveR Z54 1 10 = (X1, 0) := by kernel_rfl
theorem x2 : takeR X1 1 11 = (Z54, 11) := by kernel_rfl
theorem x3 : moveR X1 1 2 4 = (X2, 0) := by kernel_rfl
theorem x4 : takeR X2 2 4 = (X3, 0) := by kernel_rfl
theorem x5 : sumsR X3 = (10, 4) := by kernel_rfl
theorem x6 : localR X3 1 = 6 := by kernel_rfl
theorem x7 : localR X3 2 = 0 := by kernel_rfl
theorem rgworks_any (w : World) : Calls Try.prog 22 #[] w fun e w' => e = .returned (.bool true) ∧ Below w.heap.size w w' := by
  have G1 : Hid (∀ W, Calls Try.prog 40 #[.agg (rgtA Z54), .int .i64 1, .int .i64 10] W fun e w' => e = .returned (.tuple #[.agg (rgtA X1), .int .i64 0]) ∧ Below W.heap.size W w') := by
    intro W; have := give_any Z54 rfl 1 10 W; rwa [x1] at this
  have T1 : Hid (∀ W, Calls Try.prog 41 #[.agg (rgtA X1), .int .i64 1, .int .i64 11] W fun e w' => e = .returned (.tuple #[.agg (rgtA Z54), .int .i64 11]) ∧ Below W.heap.size W w') := by
    intro W; have := take_any X1 x1_len 1 11 W; rwa [x2] at this
  have M1 : Hid (∀ W, Calls Try.prog 42 #[.agg (rgtA X1), .int .i64 1, .int .i64 2, .int .i64 4] W fun e w' => e = .returned (.tuple #[.agg (rgtA X2), .int .i64 0]) ∧ Below W.heap.size W w') := by
    intro W; have := move_any X1 x1_len 1 2 4 W; rwa [x3] at this
  have T2 : Hid (∀ W, Calls Try.prog 41 #[.agg (rgtA X2), .int .i64 2, .int .i64 4] W fun e w' => e = .returned (.tuple #[.agg (rgtA X3), .int .i64 0]) ∧ Below W.heap.size W w') := by
    intro W; have := take_any X2 x2_len 2 4 W; rwa [x4] at this
  have S3 : Hid (∀ W, Calls Try.prog 29 #[.agg (rgtA X3)] W fun e w' => e = .returned (.tuple #[.int .i64 10, .int .i64 4]) ∧ Below W.heap.size W w') := by
    intro W; have := sums_any X3 x3_len W; rwa [x5] at this
  have L1 : Hid (∀ W, Calls Try.prog 31 #[.agg (rgtA X3), .int .i64 1] W fun e w' => e = .returned (.int .i64 6) ∧ Below W.heap.size W w') := by
    intro W; have := local_any X3 x3_len 1 W; rwa [x6] at this
  have L2 : Hid (∀ W, Calls Try.prog 31 #[.agg (rgtA X3), .int .i64 2] W fun e w' => e = .returned (.int .i64 0) ∧ Below W.heap.size W w') := by
    intro W; have := local_any X3 x3_len 2 W; rwa [x7] at this
  have bR := run_buildR
  have aR := run_allocR
  have s1 := run_storeR_new x1_len
  have s2 := run_storeR_new x2_len
  have s3 := run_storeR_new x3_len
  have sZ := run_storeR_new (L := Z54) rfl
  go_enter Try.func22, Try.ntmps22
  go_wp2_with fail
  refine (G1.out _).mono ?_
  rintro e w1 ⟨rfl, hb⟩
  have V1 : Rs w (w1.alloc (.cells (rgtA X1) 42)) [(w1.heap.size, X1)] := ((Rs.nil w).next hb).new x1_len _ rfl
  have l1 := Rs.load (w := w) (l := [(w1.heap.size, X1)]) 0 rfl
  clear hb
  go_wp2_with fail
  refine (T1.out _).mono ?_
  rintro e w2 ⟨rfl, hb⟩
  have V2 : Rs w (w2.alloc (.cells (rgtA Z54) 42)) [(w1.heap.size, X1), (w2.heap.size, Z54)] := (V1.next hb).new rfl _ rfl
  have l1 := Rs.load (w := w) (l := [(w1.heap.size, X1), (w2.heap.size, Z54)]) 0 rfl
  clear hb V1
  go_wp2_with fail
  refine (M1.out _).mono ?_
  rintro e w3 ⟨rfl, hb⟩
  have V3 : Rs w (w3.alloc (.cells (rgtA X2) 42)) [(w1.heap.size, X1), (w2.heap.size, Z54), (w3.heap.size, X2)] := (V2.next hb).new x2_len _ rfl
  have l2 := Rs.load (w := w) (l := [(w1.heap.size, X1), (w2.heap.size, Z54), (w3.heap.size, X2)]) 2 rfl
  clear hb V2
  go_wp2_with fail
  refine (T2.out _).mono ?_
  rintro e w4 ⟨rfl, hb⟩
  have V4 : Rs w (w4.alloc (.cells (rgtA X3) 42)) [(w1.heap.size, X1), (w2.heap.size, Z54), (w3.heap.size, X2), (w4.heap.size, X3)] := (V3.next hb).new x3_len _ rfl
  have l3 := Rs.load (w := w) (l := [(w1.heap.size, X1), (w2.heap.size, Z54), (w3.heap.size, X2), (w4.heap.size, X3)]) 3 rfl
  clear hb V3
  go_wp2_with fail
  refine (S3.out _).mono ?_
  rintro e w5 ⟨rfl, hb⟩
  have V5 := V4.next hb
  clear hb V4
  go_wp2_with fail
  refine (L1.out _).mono ?_
  rintro e w6 ⟨rfl, hb⟩
  have V6 := V5.next hb
  clear hb V5
  go_wp2_with fail
  refine (L2.out _).mono ?_
  rintro e w7 ⟨rfl, hb⟩
  have V7 := (V6.next hb).bel
  clear hb V6
  go_wp2_with fail
  go_ret
  exact ⟨rfl, V7⟩
end Go.Proofs.Ytmddbpkojboogaa
