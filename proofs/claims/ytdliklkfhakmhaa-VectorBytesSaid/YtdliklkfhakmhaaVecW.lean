import Derived.Test.YtdliklkfhakmhaaVecG
namespace Go.Proofs.Ytdliklkfhakmhaa
open Go.RowKit
/-! the chapter's examples. -/
def va : List Nat := [1, 2, 0, 0, 0, 0]
def vb : List Nat := [2, 1, 0, 0, 0, 0]
def vj : List Nat := [2, 2, 0, 0, 0, 0]
def vm : List Nat := [1, 1, 0, 0, 0, 0]
set_option maxHeartbeats 2000000 in
set_option maxRecDepth 100000 in
theorem vworks_any (w : World) : Calls Try.prog 15 #[] w fun e w' => e = .returned (.bool true) ∧ Below w.heap.size w w' := by
  have q1 : ∀ W, (Op.equalIn 10000 24 (.agg (vecA vj)) (.agg #[.int .u64 2, .int .u64 2, .int .u64 0, .int .u64 0, .int .u64 0, .int .u64 0])).run Try.prog W = .ok true W := vec_same (L := vj) (M := vj) rfl rfl
  have q2 : ∀ W, (Op.equalIn 10000 24 (.agg (vecA vm)) (.agg #[.int .u64 1, .int .u64 1, .int .u64 0, .int .u64 0, .int .u64 0, .int .u64 0])).run Try.prog W = .ok true W := vec_same (L := vm) (M := vm) rfl rfl
  go_enter Try.func15, Try.ntmps15
  go_wp2_with fail
  have V1 : Vs w ((w.alloc (.cells (vecA va) 24)).alloc (.cells (vecA vb) 24)) [(w.heap.size, va), (w.heap.size + 1, vb)] := ((Vs.nil w).new va _ rfl).new vb _ (by simp)
  have hBs := Blk.new ((w.alloc (.cells (vecA va) 24)).alloc (.cells (vecA vb) 24)) 24 (vecL va ++ vecL vb).toArray
  rw [show ((w.alloc (.cells (vecA va) 24)).alloc (.cells (vecA vb) 24)).heap.size = w.heap.size + 1 + 1 by simp] at hBs
  (refine (join_two va vb rfl rfl (w.heap.size + 1 + 1) 2 _ hBs).mono ?_)
  rintro e w2 ⟨rfl, hb⟩
  rw [show joinV [va, vb] = vj by decide]
  have V2 := (V1.alloc _).next hb
  clear hb hBs V1
  have V3 := V2.new vj _ rfl
  have g0 := heap_alloc_new w2 (.cells (vecA Z6) 24)
  have HSET := Lib.hid (setRow_new w2 w2.heap.size rfl (vecA Z6) (vecA vj) 24)
  generalize w2.alloc (.cells (vecA vj) 24) = w3 at V3 HSET
  have ba := V3.nth 0 rfl
  go_wp2_with (first | (refine wpList_store_at rfl 24 _ _ rfl _ (vecA vj) rfl rfl 24 (vecA Z6) g0 (infoV_of vj rfl) (vecA_six rfl) (vecA_one vj) HSET.out ?_) | (refine wpList_load_any rfl 24 _ rfl _ rfl 24 (vecA va) (0, 0) _ ba Try.underlying24 rfl (infoV_of va rfl) ?_))
  clear g0 HSET V2
  have n1 := next_yes va rfl 2 (by decide) w3 (by decide)
  rw [show (((2 : Nat) : Int) + 1) = 3 from rfl, show va[2] + 1 = 1 from rfl] at n1
  (with_reducible refine n1.mono ?_)
  rintro e w4 ⟨rfl, hb⟩
  have V4 := V3.next hb
  clear n1 hb ba V3
  have ba := V4.nth 0 rfl
  go_wp2_with (refine wpList_load_any rfl 24 _ rfl _ rfl 24 (vecA va) (0, 0) _ ba Try.underlying24 rfl (infoV_of va rfl) ?_)
  (with_reducible refine (next_no va 7 (.inr (by omega)) w4).mono ?_)
  rintro e w5 ⟨rfl, hb⟩
  have V5 := V4.next hb
  clear hb ba V4
  have ba := V5.nth 0 rfl
  have bb := V5.nth 1 rfl
  have bj := V5.nth 2 rfl
  go_wp2_with (first | (refine wpList_load_any rfl 24 _ rfl _ rfl 24 (vecA vj) (0, 0) _ bj Try.underlying24 rfl (infoV_of vj rfl) ?_) | (refine wpList_load_any rfl 24 _ rfl _ rfl 24 (vecA va) (0, 0) _ ba Try.underlying24 rfl (infoV_of va rfl) ?_) | (refine wpList_load_any rfl 24 _ rfl _ rfl 24 (vecA vb) (0, 0) _ bb Try.underlying24 rfl (infoV_of vb rfl) ?_) | (refine wpList_two rfl _ _ rfl va vb rfl rfl rfl rfl ?_))
  have hBs := Blk.new w5 24 (vecL va ++ vecL vb).toArray
  (refine (meet_two va vb rfl rfl _ 2 _ hBs).mono ?_)
  rintro e w6 ⟨rfl, hb⟩
  rw [show meetV [va, vb] = vm by decide]
  have V6 := (V5.alloc _).next hb
  clear hb hBs V5 ba bb bj
  have ba := V6.nth 0 rfl
  have bb := V6.nth 1 rfl
  have bj := V6.nth 2 rfl
  go_wp2_with (first | (refine wpList_load_any rfl 24 _ rfl _ rfl 24 (vecA vj) (0, 0) _ bj Try.underlying24 rfl (infoV_of vj rfl) ?_) | (refine wpList_load_any rfl 24 _ rfl _ rfl 24 (vecA va) (0, 0) _ ba Try.underlying24 rfl (infoV_of va rfl) ?_) | (refine wpList_load_any rfl 24 _ rfl _ rfl 24 (vecA vb) (0, 0) _ bb Try.underlying24 rfl (infoV_of vb rfl) ?_))
  (refine (less_any va vj rfl rfl _).mono ?_)
  rintro e w7 ⟨rfl, hb⟩
  rw [show lessV va vj = true by decide]
  have V7 := V6.next hb
  clear hb ba bb bj V6
  have ba := V7.nth 0 rfl
  have bb := V7.nth 1 rfl
  have bj := V7.nth 2 rfl
  go_wp2_with (first | (refine wpList_load_any rfl 24 _ rfl _ rfl 24 (vecA vj) (0, 0) _ bj Try.underlying24 rfl (infoV_of vj rfl) ?_) | (refine wpList_load_any rfl 24 _ rfl _ rfl 24 (vecA va) (0, 0) _ ba Try.underlying24 rfl (infoV_of va rfl) ?_) | (refine wpList_load_any rfl 24 _ rfl _ rfl 24 (vecA vb) (0, 0) _ bb Try.underlying24 rfl (infoV_of vb rfl) ?_))
  (refine (less_any vb va rfl rfl _).mono ?_)
  rintro e w8 ⟨rfl, hb⟩
  rw [show lessV vb va = false by decide]
  have V8 := V7.next hb
  clear hb ba bb bj V7
  have ba := V8.nth 0 rfl
  have bb := V8.nth 1 rfl
  have bj := V8.nth 2 rfl
  go_wp2_with (first | (refine wpList_load_any rfl 24 _ rfl _ rfl 24 (vecA vj) (0, 0) _ bj Try.underlying24 rfl (infoV_of vj rfl) ?_) | (refine wpList_load_any rfl 24 _ rfl _ rfl 24 (vecA va) (0, 0) _ ba Try.underlying24 rfl (infoV_of va rfl) ?_) | (refine wpList_load_any rfl 24 _ rfl _ rfl 24 (vecA vb) (0, 0) _ bb Try.underlying24 rfl (infoV_of vb rfl) ?_))
  (refine (has_yes va rfl 1 (by decide) 2 _).mono ?_)
  rintro e w9 ⟨rfl, hb⟩
  rw [show hasV va 1 2 = true by decide]
  have V9 := V8.next hb
  clear hb ba bb bj V8
  have ba := V9.nth 0 rfl
  have bb := V9.nth 1 rfl
  have bj := V9.nth 2 rfl
  go_wp2_with (first | (refine wpList_load_any rfl 24 _ rfl _ rfl 24 (vecA vj) (0, 0) _ bj Try.underlying24 rfl (infoV_of vj rfl) ?_) | (refine wpList_load_any rfl 24 _ rfl _ rfl 24 (vecA va) (0, 0) _ ba Try.underlying24 rfl (infoV_of va rfl) ?_) | (refine wpList_load_any rfl 24 _ rfl _ rfl 24 (vecA vb) (0, 0) _ bb Try.underlying24 rfl (infoV_of vb rfl) ?_))
  (refine (has_yes va rfl 1 (by decide) 3 _).mono ?_)
  rintro e w10 ⟨rfl, hb⟩
  rw [show hasV va 1 3 = false by decide]
  have V10 := V9.next hb
  clear hb ba bb bj V9
  have ba := V10.nth 0 rfl
  have bb := V10.nth 1 rfl
  have bj := V10.nth 2 rfl
  go_wp2_with (first | (refine wpList_load_any rfl 24 _ rfl _ rfl 24 (vecA vj) (0, 0) _ bj Try.underlying24 rfl (infoV_of vj rfl) ?_) | (refine wpList_load_any rfl 24 _ rfl _ rfl 24 (vecA va) (0, 0) _ ba Try.underlying24 rfl (infoV_of va rfl) ?_) | (refine wpList_load_any rfl 24 _ rfl _ rfl 24 (vecA vb) (0, 0) _ bb Try.underlying24 rfl (infoV_of vb rfl) ?_))
  (refine (lack_any va vj rfl rfl (by decide) _).mono ?_)
  rintro e w11 ⟨rfl, hb⟩
  rw [show lackV va vj = 1 by decide]
  have V11 := V10.next hb
  clear hb ba bb bj V10
  have ba := V11.nth 0 rfl
  have bb := V11.nth 1 rfl
  have bj := V11.nth 2 rfl
  go_wp2_with (first | (refine wpList_load_any rfl 24 _ rfl _ rfl 24 (vecA vj) (0, 0) _ bj Try.underlying24 rfl (infoV_of vj rfl) ?_) | (refine wpList_load_any rfl 24 _ rfl _ rfl 24 (vecA va) (0, 0) _ ba Try.underlying24 rfl (infoV_of va rfl) ?_) | (refine wpList_load_any rfl 24 _ rfl _ rfl 24 (vecA vb) (0, 0) _ bb Try.underlying24 rfl (infoV_of vb rfl) ?_))
  (refine (may_any va rfl _).mono ?_)
  rintro e w12 ⟨rfl, hb⟩
  rw [show mayV va = true by decide]
  have V12 := V11.next hb
  clear hb ba bb bj V11
  have hbel := V12.bel
  clear V12 q1 q2
  go_wp2_with fail
  go_ret
  exact ⟨rfl, hbel⟩
end Go.Proofs.Ytdliklkfhakmhaa
