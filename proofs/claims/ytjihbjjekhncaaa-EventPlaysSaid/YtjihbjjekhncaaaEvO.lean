import Derived.Test.YtjihbjjekhncaaaEvB
namespace Go.Proofs.Ytjihbjjekhncaaa
open Go.RowKit
/-! vector, leatref06: the vector whose bytes these are. -/
def ofR (bs : List UInt8) : List Nat × Int := if bs.length = 48 ∧ mayV (ofV bs 6) = true then (ofV bs 6, 0) else (Z6, 5)
theorem ofR_short {bs : List UInt8} (h : ¬ bs.length = 48) : ofR bs = (Z6, 5) := by unfold ofR; rw [if_neg (fun x => h x.1)]
theorem ofR_no {bs : List UInt8} (h : mayV (ofV bs 6) = false) : ofR bs = (Z6, 5) := by unfold ofR; rw [if_neg (fun x => by rw [h] at x; cases x.2)]
theorem ofR_yes {bs : List UInt8} (hl : bs.length = 48) (h : mayV (ofV bs 6) = true) : ofR bs = (ofV bs 6, 0) := by unfold ofR; rw [if_pos ⟨hl, h⟩]
theorem or_num (x c : Nat) (hx : x < 72057594037927936) (hc : c < 256) : bits .or .u64 ((x : Int) * 256) (c : Int) = ((x * 256 + c : Nat) : Int) := by
  have := u64_or_nat (x * 256) c (by omega) (by omega)
  rw [or_byte x c hc] at this
  rw [← this]; rfl
set_option maxRecDepth 100000 in
theorem vof_any (A : Option Addr) (m c : Nat) (bs : List UInt8) (w : World) (hbs : Bytes w w.heap.size A bs) (hm : m = bs.length) :
    Calls Try.prog 55 #[.slice A m c] w fun e w' => e = .returned (.tuple #[.agg (vecA (ofR bs).1), .int .i64 (ofR bs).2]) ∧ Below w.heap.size w w' := by
  have hb := ((Below.refl w.heap.size w).alloc (Nat.le_refl _) (.cells (vecA Z6) 24)).alloc (by simp) (.cells (vecA Z6) 24)
  have g1 : Blk ((w.alloc (.cells (vecA Z6) 24)).alloc (.cells (vecA Z6) 24)) w.heap.size 24 (vecA Z6) := heap_alloc2_old w (.cells (vecA Z6) 24) (.cells (vecA Z6) 24)
  have g2 : Blk ((w.alloc (.cells (vecA Z6) 24)).alloc (.cells (vecA Z6) 24)) (w.heap.size + 1) 24 (vecA Z6) := heap_alloc2_new w (.cells (vecA Z6) 24) (.cells (vecA Z6) 24)
  have hiZ := infoV_of Z6 rfl
  have ONE := Lib.hid (vecA_one Z6)
  by_cases hl : bs.length = 48
  · rw [hl] at hm
    subst hm
    have HL := Lib.hid hl
    clear hl
    go_enter Try.func55, Try.ntmps55
    go_wp2_with fail
    go_loopw [13] (fun i wr => ∃ k : Nat, k ≤ 48 ∧ i = .int .i64 (k : Int) ∧ Blk wr w.heap.size 24 (vecA Z6) ∧ Blk wr (w.heap.size + 1) 24 (vecA (atV bs k 0 6)) ∧ Below w.heap.size w wr) (fun i _ => 48 - (intOf i).toNat)
    case atStart => exact ⟨0, by omega, rfl, g1, g2, hb⟩
    case round =>
      clear g1 g2 hb
      obtain ⟨k, hk, rfl, hR, hV, hbw⟩ := hrel
      by_cases hlt : k < 48
      · have hkb : k < bs.length := by rw [HL.out]; exact hlt
        obtain ⟨b, off, rfl, hab, hcell⟩ := Bytes.at_ (hbs.below hbw) hkb
        have hq : k / 8 < (atV bs k 0 6).length := by rw [atV_len]; omega
        obtain ⟨hx, hnext⟩ := atV_cell bs k hkb hlt hq
        have hc := hV.cell (k / 8)
        rw [vecA_at _ _ hq] at hc
        have hfz := hV.frozen (k / 8)
        have hst := hV.set_ (k / 8) (.int .u64 (((atV bs k 0 6)[k / 8] * 256 + bs[k].toNat : Nat) : Int))
        rw [vecA_set, hnext] at hst
        have hR2 := hR.far (p := ⟨w.heap.size + 1, k / 8, none⟩) (by simp) (.int .u64 (((atV bs k 0 6)[k / 8] * 256 + bs[k].toNat : Nat) : Int))
        have hb2 := hbw.setCell (p := ⟨w.heap.size + 1, k / 8, none⟩) (by simp) (.int .u64 (((atV bs k 0 6)[k / 8] * 256 + bs[k].toNat : Nat) : Int))
        have hc256 : bs[k].toNat < 256 := bs[k].toNat_lt
        have hor := or_num _ _ hx hc256
        generalize (atV bs k 0 6)[k / 8] = x at hx hc hst hR2 hb2 hor
        generalize bs[k].toNat = y at hcell hst hR2 hb2 hor hc256
        generalize ((x * 256 + y : Nat) : Int) = Z at hst hR2 hb2 hor
        have hq6 : k / 8 < 6 := by omega
        have hqi : (k : Int) / 8 = ((k / 8 : Nat) : Int) := by omega
        generalize hqq : k / 8 = q at hc hfz hst hR2 hb2 hq6 hqi
        have hwr : IntKind.u64.wrap (y : Int) = (y : Int) := by rw [IntKind.wrap_u64]; omega
        clear hqq hV hR hbw
        go_wp2_with fail
        exact ⟨⟨k + 1, by omega, by go_num, hR2, hst, hb2⟩, by simp [intOf]; omega⟩
      · obtain rfl : k = 48 := by omega
        rw [atV_done bs 48 HL.out.symm] at hV
        have h6 : (ofV bs 6).length = 6 := ofV_len 6 bs
        have hinf := infoV_of _ h6
        have SZ : Hid ((vecA Z6).size = (vecA (ofV bs 6)).size) := by show _ = _; rw [vecA_size, vecA_size, h6]; rfl
        have ON2 := Lib.hid (vecA_one (ofV bs 6))
        have hmay := may_any (ofV bs 6) h6 wr
        cases hmv : mayV (ofV bs 6)
        case' false => have RV := Lib.hid (ofR_no hmv)
        case' true => have RV := Lib.hid (ofR_yes HL.out hmv)
        all_goals
          rw [hmv] at hmay
          have MAY := Lib.hid hmay
          clear hmay hmv h6
          generalize ofV bs 6 = V at hV hinf SZ ON2 MAY RV
          go_wp2_with (first
            | (refine wpList_load_row rfl 24 _ rfl _ rfl 24 (vecA V) (0, 0) _ hV Try.underlying24 rfl hinf ?_)
            | (go_at_call 69; refine MAY.out.mono ?_; rintro e w9 ⟨rfl, hb9⟩; have hR9 := Blk.after hb9 hR; have hV9 := Blk.after hb9 hV; have hbw9 := hbw.trans (hb9.mono hbw.size))
            | (refine wpList_load_row rfl 24 _ rfl _ rfl 24 (vecA V) (0, 0) _ hV9 Try.underlying24 rfl hinf ?_)
            | (refine wpList_store_row rfl 24 _ _ rfl _ (vecA V) rfl rfl 24 _ hR9 hinf SZ.out ON2.out ?_)
            | (refine wpList_store_row rfl 24 _ _ rfl _ (vecA Z6) rfl rfl 24 _ hR9 hiZ rfl ONE.out ?_))
        · exact bodyPost_ret (results_row_tmp Try.results55 _ _ _ 24 (vecA V) (0, 0) _ rfl (hR9.row (vecA V)) Try.underlying24 rfl hinf) rfl ⟨by rw [RV.out]; rfl, below_setRow hbw9 (Nat.le_refl _) (vecA V)⟩
        · exact bodyPost_ret (results_row_tmp Try.results55 _ _ _ 24 (vecA Z6) (0, 0) _ rfl (hR9.row (vecA Z6)) Try.underlying24 rfl hiZ) rfl ⟨by rw [RV.out]; rfl, below_setRow hbw9 (Nat.le_refl _) (vecA Z6)⟩
  · rw [ofR_short hl]
    have hmi : ¬ (m : Int) = 48 := by omega
    clear hl hm
    go_enter Try.func55, Try.ntmps55
    go_wp2_with (first
      | (refine wpList_load_row rfl 24 _ rfl _ rfl 24 (vecA Z6) (0, 0) _ g2 Try.underlying24 rfl hiZ ?_)
      | (refine wpList_store_row rfl 24 _ _ rfl _ (vecA Z6) rfl rfl 24 _ g1 hiZ rfl ONE.out ?_))
    exact bodyPost_ret (results_row_tmp Try.results55 _ _ _ 24 (vecA Z6) (0, 0) _ rfl (Blk.row (cs := vecA Z6) g1 (vecA Z6)) Try.underlying24 rfl hiZ) rfl ⟨rfl, below_setRow hb (Nat.le_refl _) (vecA Z6)⟩
end Go.Proofs.Ytjihbjjekhncaaa
