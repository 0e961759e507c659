import Derived.Test.YtnnhkanjneecjaaOctW
namespace Go.Proofs.Ytnnhkanjneecjaa
open Go.RowKit
section
variable {P : Program} {ops : Array Oper} {Q : Exit → Act → World → Prop} {a : Act} {w : World} {rest : List Oper} {o : Oper}
/-- append by its run. -/
theorem wpList_apx (hw : Region.wanted o (yielded ops a.tmps) = true) (s x : Operand) (t : TypeId) (ho : o.op = .call { callee := .builtin .append, args := #[s, x], argTypes := #[t, t] })
    (v u v' : Value) (w' : World) (hs : a.eval s = v) (hx : a.eval x = u) (hrun : (Builtin.append_ #[t, t] o.type #[v, u]).run P w = .ok v' w') (h : wpList P ops Q rest (a.put o.dst v') w') : wpList P ops Q (o :: rest) a w := by
  refine wpList_wanted hw ?_
  unfold Oper.wp execOp
  simp only [ho, resolve, invoke, builtin, Sem.run_bind, Sem.run_pure, Result.andThen_ok, List.map_toArray, List.map_cons, List.map_nil, hs, hx, hrun]
  exact h
end
/-- bytes with room of 64 noughts behind them. -/
def room (bs : List UInt8) : Array Value := (bv (bs ++ List.replicate 64 0)).toArray
theorem room_run (w : World) (B : Nat) (A : Option Addr) (c : Nat) (bs : List UInt8) (hb : Bytes (w.alloc (.cells (bv (List.replicate (bs.length + 64) 0)).toArray 5)) B A bs) :
    (Builtin.append_ #[22, 22] 22 #[.slice (some ⟨w.heap.size, 0, none⟩) 0 (bs.length + 64), .slice A bs.length c]).run Try.prog (w.alloc (.cells (bv (List.replicate (bs.length + 64) 0)).toArray 5)) =
      .ok (.slice (some ⟨w.heap.size, 0, none⟩) bs.length (bs.length + 64)) (w.alloc (.cells (room bs) 5)) := by
  obtain ⟨i, hi, hz, hs, hby⟩ := info_parts info5
  rcases Nat.eq_zero_or_pos bs.length with h0 | h0
  · have : bs = [] := List.eq_nil_of_length_eq_zero h0
    subst this
    rcases A with _ | ad
    · simp [Builtin.append_, run_underlying Try.underlying22, sizeOf, typeInfo, hi, Builtin.lenOf, Builtin.firstCells, storeCells, room]
    · have hr := run_append_room (P := Try.prog) (w.alloc (.cells (bv (List.replicate (([] : List UInt8).length + 64) 0)).toArray 5)) 22 22 5 i Try.underlying22 hi w.heap.size 0 (([] : List UInt8).length + 64) _ (heap_alloc_new w _) ad 0 c [] (by simp) (by intro j u hu; simp at hu) (by intro u hu; cases hu) (by omega) (by simp)
      rw [World.setRow_alloc_new] at hr
      rw [show ([] : List UInt8).length = 0 from rfl] at hr ⊢
      rw [hr]
      simp [room]
  · obtain ⟨ad, rfl, _, hc⟩ := hb.2 h0
    have hr := run_append_room (P := Try.prog) (w.alloc (.cells (bv (List.replicate (bs.length + 64) 0)).toArray 5)) 22 22 5 i Try.underlying22 hi w.heap.size 0 (bs.length + 64) _ (heap_alloc_new w _) ad bs.length c (bv bs) (by rw [bv_len, hs, Nat.mul_one]) hc (bv_one bs) (by omega) (by simp [bv_len])
    rw [World.setRow_alloc_new] at hr
    rw [hr]
    simp [room, bv_append, bv_len]
    simp [bv]
set_option maxHeartbeats 1000000 in
theorem roomy_any (A : Option Addr) (c : Nat) (bs : List UInt8) (w : World) (hb : Bytes w w.heap.size A bs) (hl : bs.length ≤ 1099511627776) :
    Calls Try.prog 12 #[.slice A bs.length c] w fun e w' => e = .returned (.slice (some ⟨w.heap.size, 0, none⟩) bs.length (bs.length + 64)) ∧ w.alloc (.cells (room bs) 5) = w' := by
  have hmk : (Instr.makeSlice 22 (.int .i64 0) (.int .i64 ((bs.length : Int) + 64))).run Try.prog w = .ok (.slice (some ⟨w.heap.size, 0, none⟩) 0 (bs.length + 64)) (w.alloc (.cells (bv (List.replicate (bs.length + 64) 0)).toArray 5)) := by
    have h := make_room w 0 (bs.length + 64) (by omega)
    rw [show ((0 : Nat) : Int) + ((bs.length + 64 : Nat) : Int) = (bs.length : Int) + 64 by omega, Nat.zero_add] at h
    exact h
  have hr := room_run w w.heap.size A c bs (Reads.alloc hb (Nat.le_refl _) _)
  have HR := Lib.hid hr
  clear hr
  go_enter Try.func12, Try.ntmps12
  go_wp2_with (at_builtin; refine wpList_apx rfl _ _ 22 rfl (.slice (some ⟨w.heap.size, 0, none⟩) 0 (bs.length + 64)) (.slice A bs.length c) _ _ rfl rfl HR.out ?_)
  go_ret
  exact ⟨rfl, rfl⟩
theorem room_bytes (w : World) (g : Nat) (bs : List UInt8) (h : Blk w g 5 (room bs)) : Bytes w w.heap.size (some ⟨g, 0, none⟩) bs := by
  have hR : Row w g 5 bs := by
    refine ⟨room bs, h, ?_, ?_⟩
    · unfold room; rw [List.size_toArray, bv_len, List.length_append]; omega
    · unfold room; rw [bv_append]; exact List.take_left' (bv_len bs)
  exact hR.bytes
theorem room_zero (w : World) (g : Nat) (bs : List UInt8) (h : Blk w g 5 (room bs)) (k : Nat) (h1 : bs.length ≤ k) (h2 : k < bs.length + 64) : w.cell? ⟨g, k, none⟩ = some (.int .u8 0) := by
  rw [h.cell]
  unfold room
  rw [bv_append, List.getElem?_toArray, List.getElem?_append_right (by rw [bv_len]; exact h1), bv_len, bv_at _ _ (by rw [List.length_replicate]; omega), List.getElem_replicate]
  rfl
set_option maxHeartbeats 1000000 in
theorem kept_any (g : Nat) (A : Option Addr) (c : Nat) (bs : List UInt8) (w : World) (h : Blk w g 5 (room bs)) (hb : Bytes w w.heap.size A bs) (hl : bs.length ≤ 1099511627776) :
    Calls Try.prog 17 #[.slice (some ⟨g, 0, none⟩) bs.length (bs.length + 64), .slice A bs.length c] w fun e w' => e = .returned (.bool true) ∧ w = w' := by
  have q1 := str_any w _ (some ⟨g, 0, none⟩) (bs.length + 64) bs (room_bytes w g bs h)
  have q2 := str_any w _ A c bs hb
  go_enter Try.func17, Try.ntmps17
  go_wp2_with fail
  clear q1 q2
  go_loop [6] (fun i => ∃ k : Nat, bs.length ≤ k ∧ k ≤ bs.length + 64 ∧ i = .int .i64 k) (fun i => bs.length + 64 - (intOf i).toNat)
  case atStart => exact ⟨bs.length, by omega, by omega, rfl⟩
  case round =>
    obtain ⟨k, hk1, hk2, rfl⟩ := hrel
    by_cases hlt : k < bs.length + 64
    · have hc := room_zero w g bs h k hk1 hlt
      go_wp2_with fail
      go_round
      case rel => exact ⟨k + 1, by omega, by omega, by go_num⟩
      case measure => simp [intOf]; omega
    · go_wp2_with fail
      go_ret
      exact ⟨rfl, rfl⟩
/-- what Put and Take answer, by their arguments. -/
def good (z : Int) : Bool := z == 1 || z == 2 || z == 4 || z == 8
theorem good_size {z : Int} (h : good z = true) : ∃ k, Size k ∧ z = (k : Int) := by
  simp [good] at h
  rcases h with ((rfl | rfl) | rfl) | rfl
  · exact ⟨1, .inl rfl, rfl⟩
  · exact ⟨2, .inr (.inl rfl), rfl⟩
  · exact ⟨4, .inr (.inr (.inl rfl)), rfl⟩
  · exact ⟨8, .inr (.inr (.inr rfl)), rfl⟩
theorem not_good {z : Int} (h : good z = false) : ¬ z = 1 ∧ ¬ z = 2 ∧ ¬ z = 4 ∧ ¬ z = 8 := by
  simp [good] at h
  exact ⟨h.1.1.1, h.1.1.2, h.1.2, h.2⟩
theorem size_good {k : Nat} (h : Size k) : good (k : Int) = true := by
  rcases h with rfl | rfl | rfl | rfl <;> rfl
def putE (n : Nat) (z : Int) : Int := if good z then (if top z.toNat < n then 6 else 0) else 1
def putB (bs : List UInt8) (n : Nat) (z : Int) : List UInt8 := if good z then (if top z.toNat < n then [] else bs ++ be z.toNat n) else []
/-- a call's answer: bytes and an error. -/
def Answer (w : World) (bs : List UInt8) (err : Int) (e : Ending) (w' : World) : Prop :=
  ∃ A n c, e = .returned (.tuple #[.slice A n c, .int .i64 err]) ∧ n = bs.length ∧ Bytes w' w'.heap.size A bs ∧ Below w.heap.size w w'
theorem put_any (A : Option Addr) (m c : Nat) (bs : List UInt8) (n : Nat) (z : Int) (w : World) (hb : Bytes w w.heap.size A bs) (hm : m = bs.length) (hl : bs.length ≤ 1099511627776) (hn2 : n ≤ 18446744073709551615) :
    Calls Try.prog 13 #[.slice A m c, .int .u64 (n : Int), .int .i64 z] w (Answer w (putB bs n z) (putE n z)) := by
  cases hg : good z with
  | false =>
    obtain ⟨h1, h2, h4, h8⟩ := not_good hg
    refine (put_arg z h1 h2 h4 h8 _ _ w).mono ?_
    rintro e w' ⟨rfl, rfl⟩
    exact ⟨none, 0, 0, by simp [putE, hg], by simp [putB, hg], by simp [putB, hg]; exact no_bytes _ _ _, Below.refl _ _⟩
  | true =>
    obtain ⟨k, hk, rfl⟩ := good_size hg
    by_cases ht : top k < n
    · refine (put_many k hk _ n w ht).mono ?_
      rintro e w' ⟨rfl, rfl⟩
      exact ⟨none, 0, 0, by simp [putE, hg, ht], by simp [putB, hg, ht], by simp [putB, hg, ht]; exact no_bytes _ _ _, Below.refl _ _⟩
    · refine (put_ok k hk A m c bs n w hb hm hl (by omega) hn2).mono ?_
      rintro e w' ⟨A', m', c', rfl, hm', hown, hbel⟩
      exact ⟨A', m', c', by simp [putE, hg, ht], by simp [putB, hg, ht]; simpa using hm', by simp [putB, hg, ht]; exact (own_open hown).1, hbel⟩
end Go.Proofs.Ytnnhkanjneecjaa
