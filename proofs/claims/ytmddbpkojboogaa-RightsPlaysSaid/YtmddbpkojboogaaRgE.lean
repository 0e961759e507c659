import Derived.Test.YtmddbpkojboogaaRgD
namespace Go.Proofs.Ytmddbpkojboogaa
open Go.RowKit
/-! rights: Sums, Local. -/
attribute [local go_sem ↓] exec_loadR exec_storeR
def sumsR (L : List Int) : Int × Int := if mayR L = true then (limitR L, usedR L) else (0, 0)
theorem RS.drewN {w W : World} {γ : Nat} {L : List Int} (h : RS w W γ L) (n : Nat) : RS w (W.drewN n) γ L := ⟨h.rb.drewN n, Below.drewM h.bel n⟩
def localR (L : List Int) (i : Int) : Int := if regR i = true ∧ mayR L = true then leftR L (i - 1).toNat else 0
set_option maxRecDepth 100000 in
theorem sums_any (L : List Int) (h : L.length = 54) (w : World) :
    Calls Try.prog 29 #[.agg (rgtA L)] w fun e w' => e = .returned (.tuple #[.int .i64 (sumsR L).1, .int .i64 (sumsR L).2]) ∧ Below w.heap.size w w' := by
  have hb : RS w (w.alloc (.cells (rgtA L) 42)) w.heap.size L := ⟨RB.new w h, (Below.refl w.heap.size w).alloc (Nat.le_refl _) (.cells (rgtA L) 42)⟩
  have l1 := run_loadR hb.rb
  have MAY := Lib.hid (mayR_any L h (w.alloc (.cells (rgtA L) 42)))
  cases hm : mayR L
  case false =>
    rw [hm] at MAY
    have SV : Hid (sumsR L = (0, 0)) := by show _ = _; unfold sumsR; rw [if_neg (by rw [hm]; simp)]
    clear h hm
    go_enter Try.func29, Try.ntmps29
    go_wp2_with (go_at_call 23; refine MAY.out.mono ?_; rintro e w2 ⟨rfl, hb2⟩; have hr2 := hb.next hb2; clear hb2)
    go_ret2
    exact ⟨by rw [SV.out]; rfl, hr2.bel⟩
  case true =>
    have AM := Lib.hid (amt_may hm)
    rw [hm] at MAY
    have SV : Hid (sumsR L = (limitR L, usedR L)) := by show _ = _; unfold sumsR; rw [if_pos hm]
    clear h hm
    go_enter Try.func29, Try.ntmps29
    go_wp2_with (go_at_call 23; refine MAY.out.mono ?_; rintro e w2 ⟨rfl, hb2⟩; have hr2 := hb.next hb2; clear hb2 l1 hb)
    go_loopw [2, 3, 8] (fun s u v wr => ∃ k : Nat, k ≤ 6 ∧ v = .int .i64 (k : Int) ∧ s = .int .i64 (sumTo (gR L) k) ∧ u = .int .i64 (sumTo (fun k => cR L k - fR L k) k) ∧ RS w wr w.heap.size L) (fun _ _ v _ => 6 - (intOf v).toNat)
    case atStart => exact ⟨0, by omega, rfl, rfl, rfl, hr2⟩
    case round =>
      clear hr2
      obtain ⟨k, hk, rfl, rfl, rfl, hr⟩ := hrel
      by_cases hlt : k < 6
      · have hk0 : (0 : Int) ≤ (k : Int) := by omega
        have hk6 : (k : Int) < 6 := by omega
        have s1 : Hid (sumTo (gR L) (k + 1) = sumTo (gR L) k + gR L k) := rfl
        have s2 : Hid (sumTo (fun k => cR L k - fR L k) (k + 1) = sumTo (fun k => cR L k - fR L k) k + (cR L k - fR L k)) := rfl
        have b1 := sumG_bd AM.out k (by omega)
        have b2 := sumU_bd AM.out k (by omega)
        have b3 := AM.out.g k hlt
        have b4 := AM.out.c k hlt
        have b5 := AM.out.f k hlt
        have c1 := hr.rb.g k hlt
        have c2 := hr.rb.c k hlt
        have c3 := hr.rb.f k hlt
        generalize sumTo (gR L) k = s at s1 b1
        generalize sumTo (fun k => cR L k - fR L k) k = u at s2 b2
        generalize gR L k = x at s1 b3 c1
        generalize cR L k = y at s2 b4 c2
        generalize fR L k = z at s2 b5 c3
        have b11 := b1.1
        have b12 : s ≤ 6755399441055744 := by have := b1.2; omega
        have b21 := b2.1
        have b22 : u ≤ 6755399441055744 := by have := b2.2; omega
        have b31 := b3.1
        have b32 := b3.2
        have b41 := b4.1
        have b42 := b4.2
        have b51 := b5.1
        have b52 := b5.2
        have HR := Lib.hid hr
        clear b1 b2 b3 b4 b5 hr
        go_wp2_with fail
        go_quiet (fail)
        go_wp2_with fail
        go_roundw
        case rel => exact ⟨k + 1, by omega, by go_num, by rw [s1.out], by rw [s2.out], HR.out.drewN _⟩
        case measure => simp [intOf]; omega
      · obtain rfl : k = 6 := by omega
        rw [show sumTo (gR L) 6 = limitR L from rfl, show sumTo (fun k => cR L k - fR L k) 6 = usedR L from rfl]
        have HR := Lib.hid hr
        clear hr
        go_wp2_with fail
        go_ret2
        exact ⟨by rw [SV.out]; rfl, HR.out.bel⟩
theorem rregion_any (z : Int) (w : World) : Calls Try.prog 52 #[.int .i64 z] w fun e w' => e = .returned (.bool (regR z)) ∧ w = w' := by
  by_cases h1 : (1 : Int) ≤ z
  · by_cases h2 : z ≤ 6
    · have hv : Hid (regR z = true) := by show _ = _; simp [regR, h1, h2]
      go_enter Try.func52, Try.ntmps52
      go_wp2_with fail
      go_ret
      exact ⟨by rw [hv.out]; rfl, rfl⟩
    · have hv : Hid (regR z = false) := by show _ = _; simp [regR, h2]
      go_enter Try.func52, Try.ntmps52
      go_wp2_with fail
      go_ret
      exact ⟨by rw [hv.out]; rfl, rfl⟩
  · have hv : Hid (regR z = false) := by show _ = _; simp [regR, h1]
    go_enter Try.func52, Try.ntmps52
    go_wp2_with fail
    go_ret
    exact ⟨by rw [hv.out]; rfl, rfl⟩
theorem reg_nat {z : Int} (h : regR z = true) : ∃ k : Nat, k < 6 ∧ z = (k : Int) + 1 ∧ (z - 1).toNat = k := by
  simp [regR] at h
  exact ⟨(z - 1).toNat, by omega, by omega, rfl⟩
set_option maxRecDepth 100000 in
theorem local_any (L : List Int) (h : L.length = 54) (z : Int) (w : World) :
    Calls Try.prog 31 #[.agg (rgtA L), .int .i64 z] w fun e w' => e = .returned (.int .i64 (localR L z)) ∧ Below w.heap.size w w' := by
  have hb : RS w (w.alloc (.cells (rgtA L) 42)) w.heap.size L := ⟨RB.new w h, (Below.refl w.heap.size w).alloc (Nat.le_refl _) (.cells (rgtA L) 42)⟩
  have l1 := run_loadR hb.rb
  have MAY := Lib.hid (mayR_any L h (w.alloc (.cells (rgtA L) 42)))
  have H54 := Lib.hid h
  have REG := Lib.hid (rregion_any z)
  cases hz : regR z
  case false =>
    rw [hz] at REG
    have LV : Hid (localR L z = 0) := by show _ = _; unfold localR; rw [if_neg (by rw [hz]; simp)]
    clear h hz
    go_enter Try.func31, Try.ntmps31
    go_wp2_with (go_at_call 52; refine (REG.out _).mono ?_; rintro e w2 ⟨rfl, rfl⟩)
    go_ret
    exact ⟨by rw [LV.out]; rfl, hb.bel⟩
  case true =>
    obtain ⟨k, hk, rfl, hk1⟩ := reg_nat hz
    rw [hz] at REG
    cases hm : mayR L
    case false =>
      rw [hm] at MAY
      have LV : Hid (localR L ((k : Int) + 1) = 0) := by show _ = _; unfold localR; rw [if_neg (by rw [hm]; simp)]
      clear h hz hm hk1
      go_enter Try.func31, Try.ntmps31
      go_wp2_with (first
        | (go_at_call 52; refine (REG.out _).mono ?_; rintro e w2 ⟨rfl, rfl⟩)
        | (go_at_call 23; refine MAY.out.mono ?_; rintro e w2 ⟨rfl, hb2⟩; have hr2 := hb.next hb2; clear hb2 hb l1))
      go_ret
      exact ⟨by rw [LV.out]; rfl, hr2.bel⟩
    case true =>
      have AM := Lib.hid (amt_may hm)
      have LV : Hid (localR L ((k : Int) + 1) = leftR L k) := by show _ = _; unfold localR; rw [if_pos ⟨hz, hm⟩, hk1]
      rw [hm] at MAY
      clear h hz hm hk1
      have hk0 : (0 : Int) ≤ (k : Int) := by omega
      have hk6 : (k : Int) < 6 := by omega
      go_enter Try.func31, Try.ntmps31
      go_wp2_with (first
        | (go_at_call 52; refine (REG.out _).mono ?_; rintro e w2 ⟨rfl, rfl⟩)
        | (go_at_call 23; refine MAY.out.mono ?_; rintro e w2 ⟨rfl, hb2⟩; have hr2 := hb.next hb2; have l2 := run_loadR hr2.rb; clear hb2 hb l1)
        | (go_at_call 44; refine (left_any L H54.out AM.out k hk _).mono ?_; rintro e w3 ⟨rfl, hb3⟩; have hr3 := hr2.next hb3; clear hb3 hr2 l2))
      go_ret
      exact ⟨by rw [LV.out]; rfl, hr3.bel⟩
end Go.Proofs.Ytmddbpkojboogaa
