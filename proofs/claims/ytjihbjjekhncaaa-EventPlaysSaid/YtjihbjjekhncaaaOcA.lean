import Derived.Test.YtjihbjjekhncaaaKitB
import Derived.Laws.CopyOwn
namespace Go.Proofs.Ytjihbjjekhncaaa
open Go.RowKit
theorem info5 : (Try.prog.info? 5).map (fun i => (i.zero, i.size, i.bytes)) = some (some (.int .u8 0), 1, 1) := by kernel_rfl
/-- append of bytes, at the program's types. -/
theorem app_any (w : World) (base : Nat) (v : Value) (xs ys : List UInt8) (hown : OwnB w base 5 v xs) (B : Nat) (A : Option Addr) (c : Nat) (hr : Bytes w B A ys)
    (hlen : xs.length + ys.length ≤ 140737488355328) (hbase : base ≤ w.heap.size) :
    ∃ v' w', (Builtin.append_ #[27, 27] 27 #[v, .slice A ys.length c]).run Try.prog w = .ok v' w' ∧ OwnB w' base 5 v' (xs ++ ys) ∧ w.grownBy w' v.ownBlock ∧ (v'.ownBlock = v.ownBlock ∨ v'.ownBlock = some w.heap.size) := by
  obtain ⟨i, hi, hz, hs, hby⟩ := info_parts info5
  exact run_app w base 27 27 5 i Try.underlying27 hi hz hs hby v xs ys hown B A c hr hlen hbase
theorem str_any (w : World) (B : Nat) (A : Option Addr) (c : Nat) (bs : List UInt8) (hr : Bytes w B A bs) : (convert 27 9 (.slice A bs.length c)).run Try.prog w = .ok (.string (strB bs)) w :=
  run_str w 27 9 5 Try.underlying27 Try.underlying5 Try.underlying9 B A c bs hr
theorem own_below {w w' : World} {base : Nat} {e : TypeId} {v : Value} {bs : List UInt8} (h : OwnB w base e v bs) (hb : Below w.heap.size w w') : OwnB w' base e v bs := by
  refine ⟨h.1, ?_⟩
  rcases h.2 with h0 | ⟨g, cap, cur, hv, hg, hh, hr⟩
  · exact .inl h0
  · refine .inr ⟨g, cap, cur, hv, hg, ?_, hr⟩
    have hlt : g < w.heap.size := by
      rcases Nat.lt_or_ge g w.heap.size with h' | h'
      · exact h'
      · rw [Array.getElem?_eq_none h'] at hh; cases hh
    rw [hb.block g hlt]; exact hh
theorem own_after {w w' : World} {base : Nat} {e : TypeId} {v : Value} {bs : List UInt8} (h : OwnB w base e v bs) (hb : Below w.drew.heap.size w.drew w') : OwnB w' base e v bs :=
  own_below h ⟨hb.os, hb.tape, hb.output, hb.size, hb.block⟩
theorem below_after {w0 w w' : World} {B : Nat} (h : Below B w0 w) (hB : B ≤ w.heap.size) (hb : Below w.drew.heap.size w.drew w') : Below B w0 w' :=
  h.trans (Below.mono (B := w.heap.size) ⟨hb.os, hb.tape, hb.output, hb.size, hb.block⟩ hB)

/-- the sizes that there are; the greatest number of one. -/
def Size (k : Nat) : Prop := k = 1 ∨ k = 2 ∨ k = 4 ∨ k = 8
def top (k : Nat) : Nat := 256 ^ k - 1
set_option maxHeartbeats 400000 in
theorem greatest_yes (k : Nat) (h : Size k) (w : World) : Calls Try.prog 100 #[.int .i64 (k : Int)] w fun e w' => e = .returned (.tuple #[.int .u64 ((top k : Nat) : Int), .bool true]) ∧ w = w' := by
  rcases h with rfl | rfl | rfl | rfl
  · go_enter Try.func100, Try.ntmps100
    go_wp2
    go_ret2
    exact ⟨rfl, rfl⟩
  · go_enter Try.func100, Try.ntmps100
    go_wp2
    go_ret2
    exact ⟨rfl, rfl⟩
  · go_enter Try.func100, Try.ntmps100
    go_wp2
    go_ret2
    exact ⟨rfl, rfl⟩
  · go_enter Try.func100, Try.ntmps100
    go_wp2
    go_ret2
    exact ⟨rfl, rfl⟩
set_option maxHeartbeats 400000 in
theorem greatest_no (z : Int) (h1 : ¬ z = 1) (h2 : ¬ z = 2) (h4 : ¬ z = 4) (h8 : ¬ z = 8) (w : World) : Calls Try.prog 100 #[.int .i64 z] w fun e w' => e = .returned (.tuple #[.int .u64 0, .bool false]) ∧ w = w' := by
  have e1 : (z == 1) = false := by simpa using h1
  have e2 : (z == 2) = false := by simpa using h2
  have e4 : (z == 4) = false := by simpa using h4
  have e8 : (z == 8) = false := by simpa using h8
  clear h1 h2 h4 h8
  go_enter Try.func100, Try.ntmps100
  go_wp2
  go_ret2
  exact ⟨rfl, rfl⟩
theorem info5s : (Try.prog.info? 5).map (·.size) = some 1 := by kernel_rfl
theorem make_room (w : World) (n m : Nat) (h : n + m ≤ 281474976710656) : (Instr.makeSlice 27 (.int .i64 (n : Int)) (.int .i64 ((n : Int) + (m : Int)))).run Try.prog w =
    .ok (.slice (some ⟨w.heap.size, 0, none⟩) n (n + m)) (w.alloc (.cells (bv (List.replicate (n + m) 0)).toArray 5)) := by
  obtain ⟨i, hi, hz, hs, hby⟩ := info_parts info5
  have hr := run_make (P := Try.prog) w 27 5 i (.int .u8 0) Try.underlying27 hi hz .i64 .i64 (n : Int) ((n : Int) + (m : Int)) (by omega) (by omega) (by rw [hby]; omega) (by omega)
  simp only [Int.toNat_natCast, hs, Nat.mul_one, show ((n : Int) + (m : Int)).toNat = n + m by omega, made_zero] at hr
  exact hr
theorem spliced (n : Nat) (xs : List UInt8) (h : xs.length ≤ n) : splice (bv (List.replicate n 0)) 0 (bv xs) = bv (xs ++ List.replicate (n - xs.length) 0) := by
  unfold splice
  rw [bv_append]
  simp [bv_len]
  simp [bv]
set_option maxHeartbeats 400000 in
theorem fresh_any (A : Option Addr) (c : Nat) (bs : List UInt8) (m : Nat) (w : World) (hb : Bytes w w.heap.size A bs) (hl : bs.length + m ≤ 281474976710656) :
    Calls Try.prog 102 #[.slice A bs.length c, .int .i64 (m : Int)] w fun e w' => e = .returned (.slice (some ⟨w.heap.size, 0, none⟩) bs.length (bs.length + m)) ∧
      OwnB w' w.heap.size 5 (.slice (some ⟨w.heap.size, 0, none⟩) bs.length (bs.length + m)) bs ∧ Below w.heap.size w w' := by
  have hmk := make_room w bs.length m hl
  have hbel : Below w.heap.size w (w.alloc (.cells (bv (List.replicate (bs.length + m) 0)).toArray 5)) := (Below.refl _ _).alloc (Nat.le_refl _) _
  have hb1 := Reads.alloc hb (Nat.le_refl _) (.cells (bv (List.replicate (bs.length + m) 0)).toArray 5)
  go_enter Try.func102, Try.ntmps102
  go_wp2_with (refine wpList_copy_splice rfl _ _ 27 27 rfl 5 Try.underlying27 info5s (some ⟨w.heap.size, 0, none⟩) A bs.length (bs.length + m) bs.length c rfl rfl w.heap.size 0 (bv (List.replicate (bs.length + m) 0)) 5 (heap_alloc_new w _) (bv bs) (by simp [bv_len]) (fun h0 => ⟨rfl, by
      obtain ⟨ad, h1, _, h2⟩ := hb1.2 (by rw [bv_len] at h0; exact h0)
      exact ⟨ad, h1, h2⟩⟩) (by simp [bv_len]) (bv_one bs) w.heap.size w hbel (Nat.le_refl _) ?_; intro w1 hw1 hbel1)
  go_ret
  refine ⟨rfl, ?_, hbel1⟩
  refine ⟨by rw [bv_len, Nat.mul_one], .inr ⟨w.heap.size, bs.length + m, _, rfl, Nat.le_refl _, hw1.out, by omega, by unfold maxLen; omega, ?_, ?_⟩⟩
  · rw [spliced _ _ (by omega)]; simp [bv_len]
  · rw [spliced _ _ (by omega), bv_append]; simp [bv_len]
section
variable {ops : Array Oper} {Q : Exit → Act → World → Prop} {a : Act} {w : World} {rest : List Oper} {o : Oper}
/-- append of bytes onto the call's own, the lengths as numbers of their own: what is there then has a length that is a new number. -/
theorem wpList_ap2 (hw : Region.wanted o (yielded ops a.tmps) = true) (s x : Operand) (ho : o.op = .call { callee := .builtin .append, args := #[s, x], argTypes := #[27, 27] }) (hty : o.type = 27)
    (base : Nat) (v : Value) (xs ys zs : List UInt8) (B : Nat) (A : Option Addr) (l c : Nat) (hs : a.eval s = v) (hx : a.eval x = .slice A l c) (hlen : l = ys.length) (hz : xs ++ ys = zs)
    (hown : OwnB w base 5 v xs) (hr : Bytes w B A ys) (hsum : xs.length + ys.length ≤ 140737488355328) (w0 : World) (hbel : Below base w0 w) (hbase : base ≤ w.heap.size)
    (h : ∀ A' c' n' w', Hid (n' = zs.length) → OwnB w' base 5 (.slice A' n' c') zs → Bytes w' w'.heap.size A' zs → zs.length ≤ maxLen → Below base w0 w' → base ≤ w'.heap.size → w.grownBy w' v.ownBlock →
      wpList Try.prog ops Q rest (a.put o.dst (.slice A' n' c')) w') : wpList Try.prog ops Q (o :: rest) a w := by
  subst hlen hz
  refine wpList_app hw s x 27 ho base 5 v xs ys (xs ++ ys) B A c hs hx rfl (by rw [hty]; exact app_any w base v xs ys hown B A c hr hsum hbase) w0 hbel (fun q hq => (World.ownsRow.lt hown q hq).1) hbase ?_
  intro A' c' w' h1 h2 h3 h4 h5 h6
  exact h A' c' _ w' (show _ = _ from rfl) h1 h2 h3 h5 h6 h4
end
end Go.Proofs.Ytjihbjjekhncaaa
