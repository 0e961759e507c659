import Derived.Test.YtmddbpkojboogaaRfC
import Derived.Test.YtmddbpkojboogaaRgK
namespace Go.Proofs.Ytmddbpkojboogaa
open Go.RowKit
/-! leatref07: Join. -/
attribute [local go_sem ↓] exec_loadR exec_storeR exec_allocR exec_buildR
set_option maxRecDepth 100000
set_option maxHeartbeats 2000000
theorem r7join_any (L M : List Int) (h : L.length = 54) (h' : M.length = 54) (w : World) :
    Calls Try.prog 26 #[.agg (rgtA L), .agg (rgtA M)] w fun e w' => e = .returned (.agg (rgtA (joinR L M))) ∧ Below w.heap.size w w' := by
  have t0 : JB w _ L M := JB.first h h'
  obtain ⟨J, hJ⟩ : ∃ J, Hid (joinR L M = J) := ⟨_, Lib.hid rfl⟩
  have HL := Lib.hid h
  have HM := Lib.hid h'
  have HJ : Hid (J.length = 54) := by show _ = _; rw [← hJ.out]; exact joinR_len h h'
  have AT : Hid (∀ n, n < 54 → ∀ t, keyR n = t → ∃ x y z, (mixT J L t).getD n 0 = x ∧ M.getD n 0 = y ∧ J.getD n 0 = z ∧ (if x < y then y else x) = z) := fun n hn t ht =>
    ⟨_, _, _, mixT_at J L t n hn ht, rfl, rfl, by rw [← hJ.out, joinR_at HL.out HM.out n hn]⟩
  have aR := run_allocR
  clear h h'
  go_enter Try.func26, Try.ntmps26
  go_wp2_with fail
  go_loopw [5] (fun i wr => ∃ k : Nat, k ≤ 6 ∧ i = .int .i64 (k : Int) ∧ JB w wr (mixT J L (k * 9)) M) (fun i _ => 6 - (intOf i).toNat)
  case atStart => exact ⟨0, by omega, rfl, by rw [Nat.zero_mul, mixT_zero J HL.out]; exact t0⟩
  case round =>
    clear t0
    obtain ⟨k, hk, rfl, t⟩ := hrel
    by_cases hlt : k < 6
    · have hk0 : (0 : Int) ≤ (k : Int) := by omega
      have hk6 : (k : Int) < 6 := by omega
      obtain ⟨x, y, z, hx, hy, hz, hmax⟩ := AT.out (k) (by omega) _ (key_g k hlt)
      have c1 := t.a.at_ (k) (by omega)
      have c2 := t.b.at_ (k) (by omega)
      have c3 := t.a.blk.frozen (k)
      rw [hx] at c1
      rw [hy] at c2
      have t1 := t.step (k) (by omega) (key_g k hlt) z hz
      have Ht1 := Lib.hid t1
      clear hx hy hz t t1
      go_wp2_with fail
      go_region
      replace Ht1 := Ht1.out
      generalize (wr.setCell ⟨w.heap.size, k, none⟩ (.int .i64 z)).drew = w1 at Ht1 ⊢
      clear c1 c2 c3 hmax
      obtain ⟨x, y, z, hx, hy, hz, hmax⟩ := AT.out (6 + k) (by omega) _ (key_c k hlt)
      have c1 := Ht1.a.at_ (6 + k) (by omega)
      have c2 := Ht1.b.at_ (6 + k) (by omega)
      have c3 := Ht1.a.blk.frozen (6 + k)
      rw [hx] at c1
      rw [hy] at c2
      have t2 := Ht1.step (6 + k) (by omega) (key_c k hlt) z hz
      have Ht2 := Lib.hid t2
      clear hx hy hz Ht1 t2
      go_wp2_with fail
      go_region
      replace Ht2 := Ht2.out
      generalize (w1.setCell ⟨w.heap.size, 6 + k, none⟩ (.int .i64 _)).drew = w2 at Ht2 ⊢
      clear c1 c2 c3 hmax
      obtain ⟨x, y, z, hx, hy, hz, hmax⟩ := AT.out (12 + k) (by omega) _ (key_f k hlt)
      have c1 := Ht2.a.at_ (12 + k) (by omega)
      have c2 := Ht2.b.at_ (12 + k) (by omega)
      have c3 := Ht2.a.blk.frozen (12 + k)
      rw [hx] at c1
      rw [hy] at c2
      have t3 := Ht2.step (12 + k) (by omega) (key_f k hlt) z hz
      have Ht3 := Lib.hid t3
      clear hx hy hz Ht2 t3
      go_wp2_with fail
      go_region
      replace Ht3 := Ht3.out
      generalize (w2.setCell ⟨w.heap.size, 12 + k, none⟩ (.int .i64 _)).drew = w3 at Ht3 ⊢
      clear c1 c2 c3 hmax
      go_wp2_with fail
      go_loopw [6] (fun i wr2 => ∃ j : Nat, j ≤ 6 ∧ i = .int .i64 (j : Int) ∧ JB w wr2 (mixT J L (k * 9 + 3 + j)) M) (fun i _ => 6 - (intOf i).toNat)
      case atStart => exact ⟨0, by omega, rfl, Ht3⟩
      case round =>
        clear Ht3
        obtain ⟨j, hj, rfl, t⟩ := hrel
        by_cases hlt2 : j < 6
        · have hj0 : (0 : Int) ≤ (j : Int) := by omega
          have hj6 : (j : Int) < 6 := by omega
          obtain ⟨x, y, z, hx, hy, hz, hmax⟩ := AT.out (18 + k * 6 + j) (by omega) _ (key_r k j hlt hlt2)
          have c1 := t.a.at_ (18 + k * 6 + j) (by omega)
          have c2 := t.b.at_ (18 + k * 6 + j) (by omega)
          have c3 := t.a.blk.frozen (18 + k * 6 + j)
          rw [hx] at c1
          rw [hy] at c2
          have t4 := t.step (18 + k * 6 + j) (by omega) (key_r k j hlt hlt2) z hz
          have Ht4 := Lib.hid t4
          clear hx hy hz t t4
          go_wp2_with fail
          go_region
          go_wp2_with fail
          go_roundw
          case rel => exact ⟨j + 1, by omega, by go_num, Ht4.out⟩
          case measure => simp [intOf]; omega
        · obtain rfl : j = 6 := by omega
          have H := Lib.hid t
          clear t
          go_wp2_with fail
          go_roundw
          case rel => exact ⟨k + 1, by omega, by go_num, by rw [show (k + 1) * 9 = k * 9 + 3 + 6 by omega]; exact H.out⟩
          case measure => simp [intOf]; omega
    · obtain rfl : k = 6 := by omega
      rw [show 6 * 9 = 54 from rfl, mixT_all HJ.out] at t
      have l1 := run_loadR t.a
      have s1 := run_storeR HJ.out t.z.blk rfl
      have H := Lib.hid t
      clear t
      go_wp2_with fail
      exact bodyPost_ret (retR1 (g := w.heap.size + 2) ⟨H.out.z.blk.row (rgtA J), HJ.out⟩ Try.results26 _ rfl) rfl ⟨by rw [hJ.out], below_setRow H.out.bel (by omega) _⟩
end Go.Proofs.Ytmddbpkojboogaa
