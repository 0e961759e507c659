import Derived.Test.YtjihbjjekhncaaaEvB
namespace Go.Proofs.Ytjihbjjekhncaaa
open Go.RowKit
/-! leatref06: a vector as bytes. -/
theorem OwnB.base_ {w : World} {B B' : Nat} {e : TypeId} {v : Value} {bs : List UInt8} (h : OwnB w B e v bs) (hB : B' ≤ B) : OwnB w B' e v bs := by
  refine ⟨h.1, ?_⟩
  rcases h.2 with h | ⟨g, cap, cur, h1, h2, h3⟩
  · exact .inl h
  · exact .inr ⟨g, cap, cur, h1, Nat.le_trans hB h2, h3⟩
set_option maxRecDepth 100000 in
theorem rbytes_any (L : List Nat) (h : L.length = 6) (hu : ∀ n ∈ L, n < 18446744073709551616) (w : World) :
    Calls Try.prog 65 #[.agg (vecA L)] w fun e w' => ∃ A n c, e = .returned (.slice A n c) ∧ n = (bytesV L).length ∧ OwnB w' w.heap.size 5 (.slice A n c) (bytesV L) ∧ Below w.heap.size w w' := by
  have hg := Blk.new w 24 (vecA L)
  have hb := Below.refl (w.heap.size + 1) (w.alloc (.cells (vecA L) 24))
  have hbb : Below w.heap.size w (w.alloc (.cells (vecA L) 24)) := (Below.refl w.heap.size w).alloc (Nat.le_refl _) (.cells (vecA L) 24)
  have hs1 : w.heap.size + 1 ≤ (w.alloc (.cells (vecA L) 24)).heap.size := by simp
  have HL := Lib.hid h
  have HU := Lib.hid hu
  clear h hu
  go_enter Try.func65, Try.ntmps65
  go_wp2_with fail
  generalize w.alloc (.cells (vecA L) 24) = W0 at hg hb hbb hs1
  go_loopw [3, 4] (fun v i wr => ∃ (k n : Nat) (A : Option Addr) (c : Nat), k ≤ 6 ∧ i = .int .i64 (k : Int) ∧ v = .slice A n c ∧ OwnB wr (w.heap.size + 1) 5 (.slice A n c) (bytesV (L.take k)) ∧ Hid (n = (bytesV (L.take k)).length) ∧ Below (w.heap.size + 1) W0 wr) (fun _ i _ => 6 - (intOf i).toNat)
  case atStart => exact ⟨0, 0, none, 0, by omega, rfl, rfl, OwnB.nil_ _ _ _, rfl, hb⟩
  case round =>
    obtain ⟨k, n, A, c, hk, rfl, rfl, hown, hn, hbw⟩ := hrel
    by_cases hlt : k < 6
    · have hkl : k < L.length := by rw [HL.out]; exact hlt
      have STEP := Lib.hid (bytesV_step L k hkl)
      have hlen : (bytesV (L.take k)).length ≤ 48 := by rw [bytesV_len, List.length_take]; omega
      have CELL : Hid (∀ W, Below (w.heap.size + 1) W0 W → W.cell? ⟨w.heap.size, k, none⟩ = some (.int .u64 ((L[k] : Nat) : Int))) := by
        show ∀ W, _
        intro W hW
        rw [(hg.below hW (by omega)).cell, vecA_at L k hkl]
      have hx64 := HU.out _ (List.getElem_mem hkl)
      generalize L[k] = x at CELL STEP hx64
      have HX64 := Lib.hid hx64
      generalize bytesV (L.take k) = pre at hown STEP hlen hn
      have hk6 : (k : Int) < 6 := by omega
      clear hx64
      go_wp2_with fail
      go_loopw [3, 5] (fun v i wr2 => ∃ (j n : Nat) (z : Int) (A : Option Addr) (c : Nat), j ≤ 8 ∧ i = .int .i64 z ∧ z = 56 - 8 * (j : Int) ∧ v = .slice A n c ∧ OwnB wr2 (w.heap.size + 1) 5 (.slice A n c) (pre ++ (be8 x).take j) ∧ Hid (n = (pre ++ (be8 x).take j).length) ∧ Below (w.heap.size + 1) W0 wr2) (fun _ i _ => (intOf i + 8).toNat)
      case atStart => exact ⟨0, n, _, A, c, by omega, rfl, rfl, rfl, by simpa using hown, by show _ = _; rw [hn.out]; simp, hbw⟩
      case round =>
        clear hown hbw hn
        obtain ⟨j, m, z, A', c', hj, rfl, hz, rfl, hown, hm, hbw⟩ := hrel
        by_cases hj8 : j < 8
        · obtain ⟨s, hs⟩ : ∃ s : Nat, s = 56 - 8 * j := ⟨_, rfl⟩
          obtain rfl : z = (s : Int) := by omega
          have BST := Lib.hid (be8_step x j hj8)
          rw [← hs] at BST
          have HZ := Lib.hid hz
          have hs0 : (0 : Int) ≤ (s : Int) := by omega
          have hmin : min s 64 = s := by omega
          have hs2 : (s : Int) < 9223372036854775808 := by omega
          clear hs hz
          have hby := byte_of x s
          have hpl : (pre ++ (be8 x).take j).length ≤ 60 := by rw [List.length_append, List.length_take, be8_len]; omega
          have hcell := CELL.out wr hbw
          have hsz : w.heap.size + 1 ≤ wr.heap.size := Nat.le_trans hs1 hbw.size
          generalize UInt8.ofNat (x / 2 ^ s % 256) = y at BST hby
          generalize hP : pre ++ (be8 x).take j = P at hown hm hpl
          have HP := Lib.hid hP
          clear hP
          go_wp2_with (at_builtin; refine wpList_apB rfl _ _ rfl rfl (w.heap.size + 1) (.slice A' m c') P [y] (P ++ [y]) (wr.alloc (.cells (bv [y]).toArray 5)).heap.size (some ⟨wr.heap.size, 0, none⟩) 1 1 rfl rfl rfl rfl (World.ownsRow.alloc hown _) (bytes_const wr [y] 5 (0, 0)) (by simp; omega) W0 (Below.alloc hbw hsz _) (by simp; omega) ?_; intro A1 c1 n1 W1 e1 h1 hl1 hbel1 hs1 hg1; clear hg1)
          go_roundw
          case rel => exact ⟨j + 1, n1, _, A1, c1, by omega, rfl, by have := HZ.out; omega, rfl, by rw [BST.out, ← List.append_assoc, HP.out]; exact h1, by show _ = _; rw [e1.out, BST.out, ← List.append_assoc, HP.out], hbel1⟩
          case measure => simp [intOf]; omega
        · obtain rfl : j = 8 := by omega
          obtain rfl : z = -8 := by omega
          rw [show (be8 x).take 8 = be8 x from rfl, ← STEP.out] at hown hm
          clear hz hj8
          go_wp2_with fail
          go_roundw
          case rel => exact ⟨k + 1, m, A', c', by omega, by go_num, rfl, hown, hm, hbw⟩
          case measure => simp [intOf]; omega
    · obtain rfl : k = 6 := by omega
      rw [show L.take 6 = L from List.take_of_length_le (by rw [HL.out]; omega)] at hown hn
      go_wp2_with fail
      go_ret
      exact ⟨A, n, c, rfl, hn.out, hown.base_ (by omega), hbb.trans (hbw.mono (by omega))⟩
end Go.Proofs.Ytjihbjjekhncaaa
