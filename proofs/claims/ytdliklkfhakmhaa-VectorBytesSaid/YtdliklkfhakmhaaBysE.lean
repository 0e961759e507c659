import Derived.Test.YtdliklkfhakmhaaBysD
namespace Go.Proofs.Ytdliklkfhakmhaa
open Go.RowKit
/-! leatref06: the vector whose bytes these are. -/
attribute [local go_sem ↓] exec_loadV exec_storeV
set_option maxRecDepth 100000 in
theorem rof_any (A : Option Addr) (m c : Nat) (bs : List UInt8) (w : World) (hbs : Bytes w w.heap.size A bs) (hm : m = bs.length) :
    Calls Try.prog 34 #[.slice A m c] w fun e w' => e = .returned (.tuple #[.agg (vecA (ofR bs).1), .int .i64 (ofR bs).2]) ∧ Below w.heap.size w w' := by
  have hb := ((Below.refl w.heap.size w).alloc (Nat.le_refl _) (.cells (vecA Z6) 24)).alloc (by simp) (.cells (vecA Z6) 24)
  have g1 : Blk ((w.alloc (.cells (vecA Z6) 24)).alloc (.cells (vecA Z6) 24)) w.heap.size 24 (vecA Z6) := heap_alloc2_old w (.cells (vecA Z6) 24) (.cells (vecA Z6) 24)
  have g2 : Blk ((w.alloc (.cells (vecA Z6) 24)).alloc (.cells (vecA Z6) 24)) (w.heap.size + 1) 24 (vecA Z6) := heap_alloc2_new w (.cells (vecA Z6) 24) (.cells (vecA Z6) 24)
  have HM := Lib.hid hm
  clear hm
  go_enter Try.func34, Try.ntmps34
  go_wp2_with fail
  go_loopw [5] (fun i wr => ∃ k : Nat, k ≤ 48 ∧ k ≤ m ∧ i = .int .i64 (k : Int) ∧ Blk wr w.heap.size 24 (vecA Z6) ∧ Blk wr (w.heap.size + 1) 24 (vecA (atV bs k 0 6)) ∧ Below w.heap.size w wr) (fun i _ => 48 - (intOf i).toNat)
  case atStart => exact ⟨0, by omega, by omega, rfl, g1, g2, hb⟩
  case round =>
    clear g1 g2 hb
    obtain ⟨k, hk, hkm, rfl, hR, hV, hbw⟩ := hrel
    by_cases hlt : k < 48
    · by_cases hlm : k < m
      · have hkb : k < bs.length := by rw [← HM.out]; exact hlm
        obtain ⟨b, off, rfl, hab, hcell⟩ := Bytes.at_ (hbs.below hbw) hkb
        have hq : k / 8 < (atV bs k 0 6).length := by rw [atV_len]; omega
        obtain ⟨hx, hnext⟩ := atV_cell bs k hkb hlt hq
        have hc := hV.cell (k / 8)
        rw [vecA_at _ _ hq] at hc
        have hfz := hV.frozen (k / 8)
        have hst := hV.set_ (k / 8) (.int .u64 (((atV bs k 0 6)[k / 8] * 256 + bs[k].toNat : Nat) : Int))
        rw [vecA_set, hnext] at hst
        have hR2 := hR.far (p := ⟨w.heap.size + 1, k / 8, none⟩) (by simp) (.int .u64 (((atV bs k 0 6)[k / 8] * 256 + bs[k].toNat : Nat) : Int))
        have hb2 := hbw.setCell (p := ⟨w.heap.size + 1, k / 8, none⟩) (by simp) (.int .u64 (((atV bs k 0 6)[k / 8] * 256 + bs[k].toNat : Nat) : Int))
        have hc256 : bs[k].toNat < 256 := bs[k].toNat_lt
        have hor := or_num _ _ hx hc256
        generalize (atV bs k 0 6)[k / 8] = x at hx hc hst hR2 hb2 hor
        generalize bs[k].toNat = y at hcell hst hR2 hb2 hor hc256
        generalize ((x * 256 + y : Nat) : Int) = Z at hst hR2 hb2 hor
        have hq6 : k / 8 < 6 := by omega
        have hqi : (k : Int) / 8 = ((k / 8 : Nat) : Int) := by omega
        generalize hqq : k / 8 = q at hc hfz hst hR2 hb2 hq6 hqi
        have hwr : IntKind.u64.wrap (y : Int) = (y : Int) := by rw [IntKind.wrap_u64]; omega
        have hki : (k : Int) < 48 := by omega
        have hkmi : (k : Int) < (m : Int) := by omega
        have HB := Lib.hid hb2
        have HST := Lib.hid hst
        have HR := Lib.hid hR2
        clear hqq hV hR hbw hb2 hst hR2
        go_wp2_with fail
        go_region
        go_wp2_with fail
        go_roundw
        case rel => exact ⟨k + 1, by omega, by omega, by go_num, HR.out.drew, HST.out.drew, HB.out.drew⟩
        case measure => simp [intOf]; omega
      · obtain rfl : k = m := by omega
        have RV := Lib.hid (ofR_short (bs := bs) (by rw [← HM.out]; omega))
        have hmi : ¬ (k : Int) = 48 := by omega
        have hki : (k : Int) < 48 := by omega
        have s1 : (storeV (.pointer (some ⟨w.heap.size, 0, none⟩)) (.agg #[.int .u64 0, .int .u64 0, .int .u64 0, .int .u64 0, .int .u64 0, .int .u64 0])).run Try.prog wr = .ok () (wr.setRow w.heap.size (vecA Z6)) := run_storeV (L := Z6) rfl hR rfl
        have HR := Lib.hid hR
        have HB := Lib.hid hbw
        clear hR hV hbw hbs hlm
        go_wp2_with fail
        exact bodyPost_ret (results_row_tmp Try.results34 _ _ _ 24 (vecA Z6) (0, 0) _ rfl (HR.out.row (vecA Z6)) Try.underlying24 rfl (infoV_of Z6 rfl)) rfl ⟨by rw [RV.out]; rfl, below_setRow HB.out (Nat.le_refl _) (vecA Z6)⟩
    · obtain rfl : k = 48 := by omega
      by_cases hm8 : m = 48
      · subst hm8
        rw [atV_done bs 48 HM.out] at hV
        have h6 : (ofV bs 6).length = 6 := ofV_len 6 bs
        have hmay := rmay_any (ofV bs 6) h6 wr
        cases hmv : mayV (ofV bs 6)
        case' false => have RV := Lib.hid (ofR_no hmv)
        case' true => have RV := Lib.hid (ofR_yes HM.out.symm hmv)
        all_goals
          rw [hmv] at hmay
          have MAY := Lib.hid hmay
          clear hmay hmv
          generalize ofV bs 6 = V at hV MAY RV h6
          have H6 := Lib.hid h6
          have l1 : (loadV (.pointer (some ⟨w.heap.size + 1, 0, none⟩))).run Try.prog wr = .ok (.agg (vecA V)) wr := run_loadV H6.out hV
          clear h6
          go_wp2_with (go_at_call 21; refine MAY.out.mono ?_; rintro e w9 ⟨rfl, hb9⟩; have hR9 := Lib.hid (Blk.after hb9 hR); have hbw9 := Lib.hid (hbw.trans (hb9.mono hbw.size)); have s1 : (storeV (.pointer (some ⟨w.heap.size, 0, none⟩)) (.agg #[.int .u64 0, .int .u64 0, .int .u64 0, .int .u64 0, .int .u64 0, .int .u64 0])).run Try.prog w9 = .ok () (w9.setRow w.heap.size (vecA Z6)) := run_storeV (L := Z6) rfl hR9.out rfl; have s2 := run_storeV H6.out hR9.out rfl; have l2 := run_loadV H6.out (Blk.after hb9 hV); clear hb9 hR hV hbw)
        · exact bodyPost_ret (results_row_tmp Try.results34 _ _ _ 24 (vecA V) (0, 0) _ rfl (hR9.out.row (vecA V)) Try.underlying24 rfl (infoV_of V H6.out)) rfl ⟨by rw [RV.out]; rfl, below_setRow hbw9.out (Nat.le_refl _) (vecA V)⟩
        · exact bodyPost_ret (results_row_tmp Try.results34 _ _ _ 24 (vecA Z6) (0, 0) _ rfl (hR9.out.row (vecA Z6)) Try.underlying24 rfl (infoV_of Z6 rfl)) rfl ⟨by rw [RV.out]; rfl, below_setRow hbw9.out (Nat.le_refl _) (vecA Z6)⟩
      · have RV := Lib.hid (ofR_short (bs := bs) (by rw [← HM.out]; omega))
        have hmi : ¬ (m : Int) = 48 := by omega
        have s1 : (storeV (.pointer (some ⟨w.heap.size, 0, none⟩)) (.agg #[.int .u64 0, .int .u64 0, .int .u64 0, .int .u64 0, .int .u64 0, .int .u64 0])).run Try.prog wr = .ok () (wr.setRow w.heap.size (vecA Z6)) := run_storeV (L := Z6) rfl hR rfl
        have HR := Lib.hid hR
        have HB := Lib.hid hbw
        clear hR hV hbw hbs
        go_wp2_with fail
        exact bodyPost_ret (results_row_tmp Try.results34 _ _ _ 24 (vecA Z6) (0, 0) _ rfl (HR.out.row (vecA Z6)) Try.underlying24 rfl (infoV_of Z6 rfl)) rfl ⟨by rw [RV.out]; rfl, below_setRow HB.out (Nat.le_refl _) (vecA Z6)⟩
end Go.Proofs.Ytdliklkfhakmhaa
