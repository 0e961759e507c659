import Derived.Test.YtmddbpkojboogaaRgJ
namespace Go.Proofs.Ytmddbpkojboogaa
open Go.RowKit
/-! rights: Join. -/
attribute [local go_sem ↓] exec_loadR exec_storeR exec_allocR exec_buildR
/-- which number is turned when. -/
def keyR (n : Nat) : Nat := if n < 6 then n * 9 else if n < 12 then (n - 6) * 9 + 1 else if n < 18 then (n - 12) * 9 + 2 else (n - 18) / 6 * 9 + 3 + (n - 18) % 6
def idxR (t : Nat) : Nat := if t % 9 = 0 then t / 9 else if t % 9 = 1 then 6 + t / 9 else if t % 9 = 2 then 12 + t / 9 else 18 + t / 9 * 6 + (t % 9 - 3)
theorem idx_key : ∀ n, n < 54 → idxR (keyR n) = n := by decide
theorem key_lt : ∀ n, n < 54 → keyR n < 54 := by decide
theorem key_g (k : Nat) (h : k < 6) : keyR k = k * 9 := by unfold keyR; rw [if_pos h]
theorem key_c (k : Nat) (h : k < 6) : keyR (6 + k) = k * 9 + 1 := by unfold keyR; rw [if_neg (by omega), if_pos (by omega)]; omega
theorem key_f (k : Nat) (h : k < 6) : keyR (12 + k) = k * 9 + 2 := by unfold keyR; rw [if_neg (by omega), if_neg (by omega), if_pos (by omega)]; omega
theorem key_r (k j : Nat) (h : k < 6) (hj : j < 6) : keyR (18 + k * 6 + j) = k * 9 + 3 + j := by unfold keyR; rw [if_neg (by omega), if_neg (by omega), if_neg (by omega)]; omega
def mixT (J L : List Int) (t : Nat) : List Int := (List.range 54).map fun n => if keyR n < t then J.getD n 0 else L.getD n 0
theorem mixT_len (J L : List Int) (t : Nat) : (mixT J L t).length = 54 := by simp [mixT]
theorem mixT_get (J L : List Int) (t n : Nat) (h : n < 54) : (mixT J L t).getD n 0 = if keyR n < t then J.getD n 0 else L.getD n 0 := by
  simp [mixT, h]
theorem mixT_at (J L : List Int) (t n : Nat) (h : n < 54) (hk : keyR n = t) : (mixT J L t).getD n 0 = L.getD n 0 := by
  rw [mixT_get J L t n h, if_neg (by omega)]
theorem mixT_zero (J : List Int) {L : List Int} (h : L.length = 54) : mixT J L 0 = L := by
  refine List.ext_getElem (by rw [mixT_len, h]) fun n h1 h2 => ?_
  simp [mixT]
  rw [List.getElem?_eq_getElem h2]; rfl
theorem mixT_all {J : List Int} (h : J.length = 54) (L : List Int) : mixT J L 54 = J := by
  refine List.ext_getElem (by rw [mixT_len, h]) fun n h1 h2 => ?_
  have := key_lt n (by omega)
  simp [mixT, this]
  rw [List.getElem?_eq_getElem h2]; rfl
theorem mixT_set (J L : List Int) (t n : Nat) (h : n < 54) (hk : keyR n = t) : (mixT J L t).set n (J.getD n 0) = mixT J L (t + 1) := by
  refine List.ext_getElem (by rw [List.length_set, mixT_len, mixT_len]) fun m h1 h2 => ?_
  rw [List.getElem_set]
  rw [mixT_len] at h2
  by_cases hm : n = m
  · subst hm
    rw [if_pos rfl]
    simp [mixT, hk]
  · rw [if_neg hm]
    have hne : keyR m ≠ t := fun e => hm (by rw [← idx_key n h, ← idx_key m h2, hk, e])
    have hd : (keyR m < t + 1) = (keyR m < t) := propext ⟨fun x => by omega, fun x => by omega⟩
    simp only [mixT, List.getElem_map, List.getElem_range, hd]
theorem joinR_len {L M : List Int} (h : L.length = 54) (h' : M.length = 54) : (joinR L M).length = 54 := by unfold joinR; rw [List.length_zipWith]; omega
theorem joinR_at {L M : List Int} (h : L.length = 54) (h' : M.length = 54) (n : Nat) (hn : n < 54) : (joinR L M).getD n 0 = if L.getD n 0 < M.getD n 0 then M.getD n 0 else L.getD n 0 := by
  have h1 : n < L.length := by omega
  have h2 : n < M.length := by omega
  simp [joinR, List.getElem?_zipWith, List.getElem?_eq_getElem h1, List.getElem?_eq_getElem h2]
theorem retR1 {W : World} {g : Nat} {M : List Int} (h : RB W g M) {fn : Func} {p : Tmp} (hf : fn.results = #[.cell p 42]) (tmps : Array Value) (hp : tmps.getD p undef = .pointer (some ⟨g, 0, none⟩)) :
    (results fn tmps).run Try.prog W = .ok (.agg (rgtA M)) W :=
  results_cell_row hf tmps W g 42 (rgtA M) (0, 0) _ hp h.blk Try.underlying42 rfl (infoR_of h.len)
/-- the blocks of Join. -/
structure JB (w W : World) (X M : List Int) : Prop where
  a : RB W w.heap.size X
  b : RB W (w.heap.size + 1) M
  z : RB W (w.heap.size + 2) Z54
  bel : Below w.heap.size w W
theorem JB.drew {w W : World} {X M : List Int} (h : JB w W X M) : JB w W.drew X M := ⟨h.a.drew, h.b.drew, h.z.drew, h.bel.drew⟩
theorem JB.put {w W : World} {X M : List Int} (h : JB w W X M) (n : Nat) (x : Int) : JB w (W.setCell ⟨w.heap.size, n, none⟩ (.int .i64 x)) (X.set n x) M :=
  ⟨h.a.put n x, h.b.far (by simp) _, h.z.far (by simp) _, h.bel.setCell (by simp) _⟩
theorem JB.step {w W : World} {J L M : List Int} {t : Nat} (h : JB w W (mixT J L t) M) (n : Nat) (hn : n < 54) (hk : keyR n = t) (z : Int) (hz : J.getD n 0 = z) : JB w (W.setCell ⟨w.heap.size, n, none⟩ (.int .i64 z)).drew (mixT J L (t + 1)) M := by
  have := h.put n z
  rw [← hz, mixT_set J L t n hn hk, hz] at this
  exact this.drew
theorem JB.first {w : World} {L M : List Int} (h : L.length = 54) (h' : M.length = 54) : JB w (((w.alloc (.cells (rgtA L) 42)).alloc (.cells (rgtA M) 42)).alloc (.cells (rgtA Z54) 42)) L M := by
  refine ⟨((RB.new w h).alloc _).alloc _, ?_, ?_, (((Below.refl _ _).alloc (Nat.le_refl _) _).alloc (by simp) _).alloc (by simp; omega) _⟩
  · exact ⟨(Blk.at_ (w.alloc (.cells (rgtA L) 42)) 42 (rgtA M) (w.heap.size + 1) (by simp)).alloc _, h'⟩
  · exact ⟨Blk.at_ ((w.alloc (.cells (rgtA L) 42)).alloc (.cells (rgtA M) 42)) 42 (rgtA Z54) (w.heap.size + 2) (by simp), rfl⟩
set_option maxRecDepth 100000
set_option maxHeartbeats 2000000
theorem joinR_any (L M : List Int) (h : L.length = 54) (h' : M.length = 54) (w : World) :
    Calls Try.prog 25 #[.agg (rgtA L), .agg (rgtA M)] w fun e w' => e = .returned (.agg (rgtA (joinR L M))) ∧ Below w.heap.size w w' := by
  have t0 : JB w _ L M := JB.first h h'
  obtain ⟨J, hJ⟩ : ∃ J, Hid (joinR L M = J) := ⟨_, Lib.hid rfl⟩
  have HL := Lib.hid h
  have HM := Lib.hid h'
  have HJ : Hid (J.length = 54) := by show _ = _; rw [← hJ.out]; exact joinR_len h h'
  have AT : Hid (∀ n, n < 54 → ∀ t, keyR n = t → ∃ x y z, (mixT J L t).getD n 0 = x ∧ M.getD n 0 = y ∧ J.getD n 0 = z ∧ (if x < y then y else x) = z) := fun n hn t ht =>
    ⟨_, _, _, mixT_at J L t n hn ht, rfl, rfl, by rw [← hJ.out, joinR_at HL.out HM.out n hn]⟩
  have aR := run_allocR
  clear h h'
  go_enter Try.func25, Try.ntmps25
  go_wp2_with fail
  go_loopw [7] (fun i wr => ∃ k : Nat, k ≤ 6 ∧ i = .int .i64 (k : Int) ∧ JB w wr (mixT J L (k * 9)) M) (fun i _ => 6 - (intOf i).toNat)
  case atStart => exact ⟨0, by omega, rfl, by rw [Nat.zero_mul, mixT_zero J HL.out]; exact t0⟩
  case round =>
    clear t0
    obtain ⟨k, hk, rfl, t⟩ := hrel
    by_cases hlt : k < 6
    · have hk0 : (0 : Int) ≤ (k : Int) := by omega
      have hk6 : (k : Int) < 6 := by omega
      obtain ⟨x, y, z, hx, hy, hz, hmax⟩ := AT.out (k) (by omega) _ (key_g k hlt)
      have c1 := t.a.at_ (k) (by omega)
      have c2 := t.b.at_ (k) (by omega)
      have c3 := t.a.blk.frozen (k)
      rw [hx] at c1
      rw [hy] at c2
      have t1 := t.step (k) (by omega) (key_g k hlt) z hz
      have Ht1 := Lib.hid t1
      clear hx hy hz t t1
      go_wp2_with fail
      go_region
      replace Ht1 := Ht1.out
      generalize (wr.setCell ⟨w.heap.size, k, none⟩ (.int .i64 z)).drew = w1 at Ht1 ⊢
      clear c1 c2 c3 hmax
      obtain ⟨x, y, z, hx, hy, hz, hmax⟩ := AT.out (6 + k) (by omega) _ (key_c k hlt)
      have c1 := Ht1.a.at_ (6 + k) (by omega)
      have c2 := Ht1.b.at_ (6 + k) (by omega)
      have c3 := Ht1.a.blk.frozen (6 + k)
      rw [hx] at c1
      rw [hy] at c2
      have t2 := Ht1.step (6 + k) (by omega) (key_c k hlt) z hz
      have Ht2 := Lib.hid t2
      clear hx hy hz Ht1 t2
      go_wp2_with fail
      go_region
      replace Ht2 := Ht2.out
      generalize (w1.setCell ⟨w.heap.size, 6 + k, none⟩ (.int .i64 _)).drew = w2 at Ht2 ⊢
      clear c1 c2 c3 hmax
      obtain ⟨x, y, z, hx, hy, hz, hmax⟩ := AT.out (12 + k) (by omega) _ (key_f k hlt)
      have c1 := Ht2.a.at_ (12 + k) (by omega)
      have c2 := Ht2.b.at_ (12 + k) (by omega)
      have c3 := Ht2.a.blk.frozen (12 + k)
      rw [hx] at c1
      rw [hy] at c2
      have t3 := Ht2.step (12 + k) (by omega) (key_f k hlt) z hz
      have Ht3 := Lib.hid t3
      clear hx hy hz Ht2 t3
      go_wp2_with fail
      go_region
      replace Ht3 := Ht3.out
      generalize (w2.setCell ⟨w.heap.size, 12 + k, none⟩ (.int .i64 _)).drew = w3 at Ht3 ⊢
      clear c1 c2 c3 hmax
      go_wp2_with fail
      go_loopw [46] (fun i wr2 => ∃ j : Nat, j ≤ 6 ∧ i = .int .i64 (j : Int) ∧ JB w wr2 (mixT J L (k * 9 + 3 + j)) M) (fun i _ => 6 - (intOf i).toNat)
      case atStart => exact ⟨0, by omega, rfl, Ht3⟩
      case round =>
        clear Ht3
        obtain ⟨j, hj, rfl, t⟩ := hrel
        by_cases hlt2 : j < 6
        · have hj0 : (0 : Int) ≤ (j : Int) := by omega
          have hj6 : (j : Int) < 6 := by omega
          obtain ⟨x, y, z, hx, hy, hz, hmax⟩ := AT.out (18 + k * 6 + j) (by omega) _ (key_r k j hlt hlt2)
          have c1 := t.a.at_ (18 + k * 6 + j) (by omega)
          have c2 := t.b.at_ (18 + k * 6 + j) (by omega)
          have c3 := t.a.blk.frozen (18 + k * 6 + j)
          rw [hx] at c1
          rw [hy] at c2
          have t4 := t.step (18 + k * 6 + j) (by omega) (key_r k j hlt hlt2) z hz
          have Ht4 := Lib.hid t4
          clear hx hy hz t t4
          go_wp2_with fail
          go_region
          go_wp2_with fail
          go_roundw
          case rel => exact ⟨j + 1, by omega, by go_num, Ht4.out⟩
          case measure => simp [intOf]; omega
        · obtain rfl : j = 6 := by omega
          have H := Lib.hid t
          clear t
          go_wp2_with fail
          go_roundw
          case rel => exact ⟨k + 1, by omega, by go_num, by rw [show (k + 1) * 9 = k * 9 + 3 + 6 by omega]; exact H.out⟩
          case measure => simp [intOf]; omega
    · obtain rfl : k = 6 := by omega
      rw [show 6 * 9 = 54 from rfl, mixT_all HJ.out] at t
      have l1 := run_loadR t.a
      have s1 := run_storeR HJ.out t.z.blk rfl
      have H := Lib.hid t
      clear t
      go_wp2_with fail
      exact bodyPost_ret (retR1 (g := w.heap.size + 2) ⟨H.out.z.blk.row (rgtA J), HJ.out⟩ Try.results25 _ rfl) rfl ⟨by rw [hJ.out], below_setRow H.out.bel (by omega) _⟩
end Go.Proofs.Ytmddbpkojboogaa
