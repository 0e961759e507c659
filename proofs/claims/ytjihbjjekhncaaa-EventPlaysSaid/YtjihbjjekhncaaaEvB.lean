import Derived.Test.YtjihbjjekhncaaaBysM
import Derived.Test.YtjihbjjekhncaaaEvV
namespace Go.Proofs.Ytjihbjjekhncaaa
open Go.RowKit
/-! vector, leatref06: a vector as bytes. -/
theorem infoB : (Try.prog.info? 5).map (fun i => (i.zero, i.size, i.bytes)) = some (some (.int .u8 0), 1, 1) := by kernel_rfl
theorem appB (w : World) (base : Nat) (v : Value) (xs ys : List UInt8) (hown : OwnB w base 5 v xs) (B : Nat) (A : Option Addr) (c : Nat) (hr : Bytes w B A ys)
    (hlen : xs.length + ys.length ≤ 140737488355328) (hbase : base ≤ w.heap.size) :
    ∃ v' w', (Builtin.append_ #[27, 27] 27 #[v, .slice A ys.length c]).run Try.prog w = .ok v' w' ∧ OwnB w' base 5 v' (xs ++ ys) ∧ w.grownBy w' v.ownBlock ∧ (v'.ownBlock = v.ownBlock ∨ v'.ownBlock = some w.heap.size) := by
  obtain ⟨i, hi, hz, hs, hby⟩ := info_parts infoB
  exact run_app w base 27 27 5 i Try.underlying27 hi hz hs hby v xs ys hown B A c hr hlen hbase
section
variable {ops : Array Oper} {Q : Exit → Act → World → Prop} {a : Act} {w : World} {rest : List Oper} {o : Oper}
/-- append of bytes onto the call's own: what is there then has a length that is a new number. -/
theorem wpList_apB (hw : Region.wanted o (yielded ops a.tmps) = true) (s x : Operand) (ho : o.op = .call { callee := .builtin .append, args := #[s, x], argTypes := #[27, 27] }) (hty : o.type = 27)
    (base : Nat) (v : Value) (xs ys zs : List UInt8) (B : Nat) (A : Option Addr) (l c : Nat) (hs : a.eval s = v) (hx : a.eval x = .slice A l c) (hlen : l = ys.length) (hz : xs ++ ys = zs)
    (hown : OwnB w base 5 v xs) (hr : Bytes w B A ys) (hsum : xs.length + ys.length ≤ 140737488355328) (w0 : World) (hbel : Below base w0 w) (hbase : base ≤ w.heap.size)
    (h : ∀ A' c' n' w', Hid (n' = zs.length) → OwnB w' base 5 (.slice A' n' c') zs → zs.length ≤ maxLen → Below base w0 w' → base ≤ w'.heap.size → w.grownBy w' v.ownBlock →
      wpList Try.prog ops Q rest (a.put o.dst (.slice A' n' c')) w') : wpList Try.prog ops Q (o :: rest) a w := by
  subst hlen hz
  refine wpList_app hw s x 27 ho base 5 v xs ys (xs ++ ys) B A c hs hx rfl (by rw [hty]; exact appB w base v xs ys hown B A c hr hsum hbase) w0 hbel (fun q hq => (World.ownsRow.lt hown q hq).1) hbase ?_
  intro A' c' w' h1 _ h3 h4 h5 h6
  exact h A' c' _ w' (show _ = _ from rfl) h1 h3 h5 h6 h4
end
theorem byte_of (x s : Nat) : (x : Int) / 2 ^ s % 256 = ((UInt8.ofNat (x / 2 ^ s % 256)).toNat : Int) := by
  rw [toNat_ofNat, Int.natCast_emod, Int.natCast_ediv, Int.natCast_pow]; rfl
theorem own_room (w : World) (base : Nat) (hb : base ≤ w.heap.size) (e : TypeId) (n : Nat) (hn : n ≤ 1000) : OwnB (w.alloc (.cells (bv (List.replicate n 0)).toArray e)) base e (.slice (some ⟨w.heap.size, 0, none⟩) 0 n) [] := by
  refine ⟨rfl, .inr ⟨w.heap.size, n, _, rfl, hb, heap_alloc_new w _, Nat.zero_le _, by unfold maxLen; omega, ?_, ?_⟩⟩
  · rw [List.size_toArray, bv_len, List.length_replicate, Nat.mul_one]
  · rfl
theorem make48 (w : World) : (Instr.makeSlice 27 (.int .i64 0) (.int .i64 48)).run Try.prog w = .ok (.slice (some ⟨w.heap.size, 0, none⟩) 0 48) (w.alloc (.cells (bv (List.replicate 48 0)).toArray 5)) := by
  obtain ⟨i, hi, hz, hs, hby⟩ := info_parts infoB
  have hr := run_make (P := Try.prog) w 27 5 i (.int .u8 0) Try.underlying27 hi hz .i64 .i64 0 48 (by omega) (by omega) (by rw [hby]; omega) (by omega)
  simp only [hs, Nat.mul_one, show (48 : Int).toNat = 48 from rfl, show (0 : Int).toNat = 0 from rfl, made_zero] at hr
  exact hr
set_option maxRecDepth 100000 in
theorem vbytes_any (L : List Nat) (h : L.length = 6) (w : World) :
    Calls Try.prog 63 #[.agg (vecA L)] w fun e w' => ∃ A n c, e = .returned (.slice A n c) ∧ n = (bytesV L).length ∧ OwnB w' w.heap.size 5 (.slice A n c) (bytesV L) ∧ Below w.heap.size w w' := by
  have hg := heap_alloc2_old w (.cells (vecA L) 24) (.cells (bv (List.replicate 48 0)).toArray 5)
  have hb := ((Below.refl w.heap.size w).alloc (Nat.le_refl _) (.cells (vecA L) 24))
  have hmk := make48 (w.alloc (.cells (vecA L) 24))
  have hob := own_room (w.alloc (.cells (vecA L) 24)) w.heap.size (by simp) 5 48 (by omega)
  have HL := Lib.hid h
  have hb2 := hb.alloc (by simp) (.cells (bv (List.replicate 48 0)).toArray 5)
  rw [show (w.alloc (.cells (vecA L) 24)).heap.size = w.heap.size + 1 by simp] at hob hmk
  clear h hb
  generalize Obj.cells (bv (List.replicate 48 0)).toArray 5 = C at hg hmk hob hb2
  go_enter Try.func63, Try.ntmps63
  go_wp2_with (refine wpList_load_row rfl 24 _ rfl _ rfl 24 (vecA L) (0, 0) _ hg Try.underlying24 rfl (infoV_of L HL.out) ?_)
  clear hmk hg
  go_loopw [3, 9] (fun v i wr => ∃ (k n : Nat) (A : Option Addr) (c : Nat), k ≤ 6 ∧ i = .int .i64 (k : Int) ∧ v = .slice A n c ∧ OwnB wr w.heap.size 5 (.slice A n c) (bytesV (L.take k)) ∧ Hid (n = (bytesV (L.take k)).length) ∧ Below w.heap.size w wr ∧ w.heap.size ≤ wr.heap.size) (fun _ i _ => 6 - (intOf i).toNat)
  case atStart => exact ⟨0, 0, _, _, by omega, rfl, rfl, hob, rfl, hb2, hb2.size⟩
  case round =>
    clear hob hb2
    obtain ⟨k, n, A, c, hk, rfl, rfl, hown, hn, hbw, hsz⟩ := hrel
    by_cases hlt : k < 6
    · have hix := vec_index L HL.out k hlt wr
      have hkl : k < L.length := by rw [HL.out]; exact hlt
      have STEP := Lib.hid (bytesV_step L k hkl)
      have hlen : (bytesV (L.take k)).length ≤ 48 := by rw [bytesV_len, List.length_take]; omega
      generalize L[k] = x at hix STEP
      generalize bytesV (L.take k) = pre at hown STEP hlen hn
      have hk6 : (k : Int) < 6 := by omega
      go_wp2_with fail
      go_loopw [3, 6] (fun v i wr2 => ∃ (j n : Nat) (z : Int) (A : Option Addr) (c : Nat), j ≤ 8 ∧ i = .int .i64 z ∧ z = 56 - 8 * (j : Int) ∧ v = .slice A n c ∧ OwnB wr2 w.heap.size 5 (.slice A n c) (pre ++ (be8 x).take j) ∧ Hid (n = (pre ++ (be8 x).take j).length) ∧ Below w.heap.size w wr2 ∧ w.heap.size ≤ wr2.heap.size) (fun _ i _ => (intOf i + 8).toNat)
      case atStart => exact ⟨0, n, _, A, c, by omega, rfl, rfl, rfl, by simpa using hown, by show _ = _; rw [hn.out]; simp, hbw, hsz⟩
      case round =>
        clear hown hbw hsz hn
        obtain ⟨j, m, z, A', c', hj, rfl, hz, rfl, hown, hm, hbw, hsz⟩ := hrel
        by_cases hj8 : j < 8
        · obtain ⟨s, hs⟩ : ∃ s : Nat, s = 56 - 8 * j := ⟨_, rfl⟩
          obtain rfl : z = (s : Int) := by omega
          have BST := Lib.hid (be8_step x j hj8)
          rw [← hs] at BST
          have HZ := Lib.hid hz
          have hs0 : (0 : Int) ≤ (s : Int) := by omega
          have hmin : min s 64 = s := by omega
          clear hs hz
          have hby := byte_of x s
          have hpl : (pre ++ (be8 x).take j).length ≤ 60 := by rw [List.length_append, List.length_take, be8_len]; omega
          generalize UInt8.ofNat (x / 2 ^ s % 256) = y at BST hby
          generalize hP : pre ++ (be8 x).take j = P at hown hm hpl
          have HP := Lib.hid hP
          clear hP
          go_wp2_with (at_builtin; refine wpList_apB rfl _ _ rfl rfl w.heap.size (.slice A' m c') P [y] (P ++ [y]) (wr.alloc (.cells (bv [y]).toArray 5)).heap.size (some ⟨wr.heap.size, 0, none⟩) 1 1 rfl rfl rfl rfl (World.ownsRow.alloc hown _) (bytes_const wr [y] 5 (0, 0)) (by simp; omega) w (Below.alloc hbw hsz _) (by simp; omega) ?_; intro A1 c1 n1 W1 e1 h1 hl1 hbel1 hs1 hg1; clear hg1)
          go_roundw
          case rel => exact ⟨j + 1, n1, _, A1, c1, by omega, rfl, by have := HZ.out; omega, rfl, by rw [BST.out, ← List.append_assoc, HP.out]; exact h1, by show _ = _; rw [e1.out, BST.out, ← List.append_assoc, HP.out], hbel1, hs1⟩
          case measure => simp [intOf]; omega
        · obtain rfl : j = 8 := by omega
          obtain rfl : z = -8 := by omega
          rw [show (be8 x).take 8 = be8 x from rfl, ← STEP.out] at hown hm
          clear hz hj8
          go_wp2_with fail
          go_roundw
          case rel => exact ⟨k + 1, m, A', c', by omega, by go_num, rfl, hown, hm, hbw, hsz⟩
          case measure => simp [intOf]; omega
    · obtain rfl : k = 6 := by omega
      rw [show L.take 6 = L from List.take_of_length_le (by rw [HL.out]; omega)] at hown hn
      go_wp2_with fail
      go_ret
      exact ⟨A, n, c, rfl, hn.out, hown, hbw⟩
end Go.Proofs.Ytjihbjjekhncaaa
