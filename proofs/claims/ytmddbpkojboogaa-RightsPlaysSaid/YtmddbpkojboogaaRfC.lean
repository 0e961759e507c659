import Derived.Test.YtmddbpkojboogaaRfB
import Derived.Test.YtmddbpkojboogaaRgJ
namespace Go.Proofs.Ytmddbpkojboogaa
open Go.RowKit
/-! leatref07: Local, Sums, right, Give, Take, Free, Move. -/
attribute [local go_sem ↓] exec_loadR exec_storeR exec_allocR exec_buildR
set_option maxRecDepth 100000
set_option maxHeartbeats 2000000
theorem r7Local_any (L : List Int) (h : L.length = 54) (z : Int) (w : World) :
    Calls Try.prog 32 #[.agg (rgtA L), .int .i64 z] w fun e w' => e = .returned (.int .i64 (localR L z)) ∧ Below w.heap.size w w' := by
  have hb : RS w (w.alloc (.cells (rgtA L) 42)) w.heap.size L := ⟨RB.new w h, (Below.refl w.heap.size w).alloc (Nat.le_refl _) (.cells (rgtA L) 42)⟩
  have l1 := run_loadR hb.rb
  have MAY := Lib.hid (r7may_any L h)
  have REG := Lib.hid (r7region_any z)
  have H54 := Lib.hid h
  have HB := Lib.hid hb
  clear hb
  cases hm : mayR L
  case false =>
    have LV : Hid (localR L z = 0) := by show _ = _; unfold localR; rw [if_neg (by rw [hm]; simp)]
    rw [hm] at MAY
    clear h hm
    go_enter Try.func32, Try.ntmps32
    go_wp2_with fail
    refine (MAY.out _).mono ?_
    rintro e w2 ⟨rfl, hb2⟩
    have V2 := Lib.hid (HB.out.next hb2)
    clear hb2 l1
    go_wp2_with fail
    go_ret
    exact ⟨by rw [LV.out]; rfl, V2.out.bel⟩
  case true =>
    cases hz : regR z
    case false =>
      have LV : Hid (localR L z = 0) := by show _ = _; unfold localR; rw [if_neg (by rw [hz]; simp)]
      rw [hm] at MAY
      rw [hz] at REG
      clear h hm hz
      go_enter Try.func32, Try.ntmps32
      go_wp2_with fail
      refine (MAY.out _).mono ?_
      rintro e w2 ⟨rfl, hb2⟩
      have V2 := Lib.hid (HB.out.next hb2)
      clear hb2 l1
      go_wp2_with fail
      refine (REG.out _).mono ?_
      rintro e w3 ⟨rfl, rfl⟩
      go_wp2_with fail
      go_ret
      exact ⟨by rw [LV.out]; rfl, V2.out.bel⟩
    case true =>
      obtain ⟨k, hk, rfl, hk1⟩ := reg_nat hz
      have LV : Hid (localR L ((k : Int) + 1) = leftR L k) := by show _ = _; unfold localR; rw [if_pos ⟨hz, hm⟩, hk1]
      have LOC := Lib.hid (r7local_any L h (amt_may hm) k hk)
      rw [hm] at MAY
      rw [hz] at REG
      clear h hm hz hk1
      go_enter Try.func32, Try.ntmps32
      go_wp2_with fail
      refine (MAY.out _).mono ?_
      rintro e w2 ⟨rfl, hb2⟩
      have V2 := Lib.hid (HB.out.next hb2)
      clear hb2 l1
      go_wp2_with fail
      refine (REG.out _).mono ?_
      rintro e w3 ⟨rfl, rfl⟩
      have l2 := run_loadR V2.out.rb
      go_wp2_with fail
      refine (LOC.out _).mono ?_
      rintro e w4 ⟨rfl, hb4⟩
      have VF := (V2.out.next hb4).bel
      clear hb4 l2
      go_wp2_with fail
      go_ret
      exact ⟨by rw [LV.out]; rfl, VF⟩
set_option maxRecDepth 100000 in
theorem r7sums_any (L : List Int) (h : L.length = 54) (w : World) :
    Calls Try.prog 30 #[.agg (rgtA L)] w fun e w' => e = .returned (.tuple #[.int .i64 (sumsR L).1, .int .i64 (sumsR L).2]) ∧ Below w.heap.size w w' := by
  have hb : RS w (w.alloc (.cells (rgtA L) 42)) w.heap.size L := ⟨RB.new w h, (Below.refl w.heap.size w).alloc (Nat.le_refl _) (.cells (rgtA L) 42)⟩
  have l1 := run_loadR hb.rb
  have MAY := Lib.hid (r7may_any L h (w.alloc (.cells (rgtA L) 42)))
  cases hm : mayR L
  case false =>
    rw [hm] at MAY
    have SV : Hid (sumsR L = (0, 0)) := by show _ = _; unfold sumsR; rw [if_neg (by rw [hm]; simp)]
    clear h hm
    go_enter Try.func30, Try.ntmps30
    go_wp2_with (go_at_call 24; refine MAY.out.mono ?_; rintro e w2 ⟨rfl, hb2⟩; have hr2 := hb.next hb2; clear hb2)
    go_ret2
    exact ⟨by rw [SV.out]; rfl, hr2.bel⟩
  case true =>
    have AM := Lib.hid (amt_may hm)
    rw [hm] at MAY
    have SV : Hid (sumsR L = (limitR L, usedR L)) := by show _ = _; unfold sumsR; rw [if_pos hm]
    clear h hm
    go_enter Try.func30, Try.ntmps30
    go_wp2_with (go_at_call 24; refine MAY.out.mono ?_; rintro e w2 ⟨rfl, hb2⟩; have hr2 := hb.next hb2; clear hb2 l1 hb)
    go_loopw [4, 5, 6] (fun s u v wr => ∃ k : Nat, k ≤ 6 ∧ v = .int .i64 (k : Int) ∧ s = .int .i64 (sumTo (gR L) k) ∧ u = .int .i64 (sumTo (fun k => cR L k - fR L k) k) ∧ RS w wr w.heap.size L) (fun _ _ v _ => 6 - (intOf v).toNat)
    case atStart => exact ⟨0, by omega, rfl, rfl, rfl, hr2⟩
    case round =>
      clear hr2
      obtain ⟨k, hk, rfl, rfl, rfl, hr⟩ := hrel
      by_cases hlt : k < 6
      · have hk0 : (0 : Int) ≤ (k : Int) := by omega
        have hk6 : (k : Int) < 6 := by omega
        have s1 : Hid (sumTo (gR L) (k + 1) = sumTo (gR L) k + gR L k) := rfl
        have s2 : Hid (sumTo (fun k => cR L k - fR L k) (k + 1) = sumTo (fun k => cR L k - fR L k) k + (cR L k - fR L k)) := rfl
        have b1 := sumG_bd AM.out k (by omega)
        have b2 := sumU_bd AM.out k (by omega)
        have b3 := AM.out.g k hlt
        have b4 := AM.out.c k hlt
        have b5 := AM.out.f k hlt
        have c1 := hr.rb.g k hlt
        have c2 := hr.rb.c k hlt
        have c3 := hr.rb.f k hlt
        generalize sumTo (gR L) k = s at s1 b1
        generalize sumTo (fun k => cR L k - fR L k) k = u at s2 b2
        generalize gR L k = x at s1 b3 c1
        generalize cR L k = y at s2 b4 c2
        generalize fR L k = z at s2 b5 c3
        have b11 := b1.1
        have b12 : s ≤ 6755399441055744 := by have := b1.2; omega
        have b21 := b2.1
        have b22 : u ≤ 6755399441055744 := by have := b2.2; omega
        have b31 := b3.1
        have b32 := b3.2
        have b41 := b4.1
        have b42 := b4.2
        have b51 := b5.1
        have b52 := b5.2
        have HR := Lib.hid hr
        clear b1 b2 b3 b4 b5 hr
        go_wp2_with fail
        go_quiet (fail)
        go_wp2_with fail
        go_roundw
        case rel => exact ⟨k + 1, by omega, by go_num, by rw [s1.out], by rw [s2.out], HR.out.drewN _⟩
        case measure => simp [intOf]; omega
      · obtain rfl : k = 6 := by omega
        rw [show sumTo (gR L) 6 = limitR L from rfl, show sumTo (fun k => cR L k - fR L k) 6 = usedR L from rfl]
        have HR := Lib.hid hr
        clear hr
        go_wp2_with fail
        go_ret2
        exact ⟨by rw [SV.out]; rfl, HR.out.bel⟩
def rightR (L : List Int) (i x : Int) : Int := if mayR L = true ∧ 1 ≤ x ∧ x ≤ 1125899906842624 then if regR i = true then 0 else 10 else 1
theorem r7right_any (L : List Int) (h : L.length = 54) (i x : Int) (w : World) :
    Calls Try.prog 59 #[.agg (rgtA L), .int .i64 i, .int .i64 x] w fun e w' => e = .returned (.int .i64 (rightR L i x)) ∧ Below w.heap.size w w' := by
  have hb : RS w (w.alloc (.cells (rgtA L) 42)) w.heap.size L := ⟨RB.new w h, (Below.refl w.heap.size w).alloc (Nat.le_refl _) (.cells (rgtA L) 42)⟩
  have l1 := run_loadR hb.rb
  have MAY := Lib.hid (r7may_any L h)
  have REG := Lib.hid (r7region_any i)
  have HB := Lib.hid hb
  clear hb
  cases hm : mayR L
  case false =>
    have LV : Hid (rightR L i x = 1) := by show _ = _; unfold rightR; rw [if_neg (by rw [hm]; simp)]
    rw [hm] at MAY
    clear h hm
    go_enter Try.func59, Try.ntmps59
    go_wp2_with fail
    refine (MAY.out _).mono ?_
    rintro e w2 ⟨rfl, hb2⟩
    have V2 := Lib.hid (HB.out.next hb2)
    clear hb2 l1
    go_wp2_with fail
    go_ret
    exact ⟨by rw [LV.out]; rfl, V2.out.bel⟩
  case true =>
    rw [hm] at MAY
    by_cases h1 : x < 1
    case pos =>
      have LV : Hid (rightR L i x = 1) := by show _ = _; unfold rightR; rw [if_neg (by omega)]
      clear h hm
      go_enter Try.func59, Try.ntmps59
      go_wp2_with fail
      refine (MAY.out _).mono ?_
      rintro e w2 ⟨rfl, hb2⟩
      have V2 := Lib.hid (HB.out.next hb2)
      clear hb2 l1
      go_wp2_with fail
      go_ret
      exact ⟨by rw [LV.out]; rfl, V2.out.bel⟩
    by_cases h2 : 1125899906842624 < x
    case pos =>
      have LV : Hid (rightR L i x = 1) := by show _ = _; unfold rightR; rw [if_neg (by omega)]
      clear h hm
      go_enter Try.func59, Try.ntmps59
      go_wp2_with fail
      refine (MAY.out _).mono ?_
      rintro e w2 ⟨rfl, hb2⟩
      have V2 := Lib.hid (HB.out.next hb2)
      clear hb2 l1
      go_wp2_with fail
      go_ret
      exact ⟨by rw [LV.out]; rfl, V2.out.bel⟩
    have LV : Hid (rightR L i x = if regR i = true then 0 else 10) := by show _ = _; unfold rightR; rw [if_pos ⟨hm, by omega, by omega⟩]
    clear h hm
    cases hz : regR i
    case false =>
      rw [hz] at REG
      rw [hz, if_neg (by simp)] at LV
      clear hz
      go_enter Try.func59, Try.ntmps59
      go_wp2_with fail
      refine (MAY.out _).mono ?_
      rintro e w2 ⟨rfl, hb2⟩
      have V2 := Lib.hid (HB.out.next hb2)
      clear hb2 l1
      go_wp2_with fail
      refine (REG.out _).mono ?_
      rintro e w3 ⟨rfl, rfl⟩
      go_wp2_with fail
      go_ret
      exact ⟨by rw [LV.out]; rfl, V2.out.bel⟩
    case true =>
      rw [hz] at REG
      rw [hz, if_pos rfl] at LV
      clear hz
      go_enter Try.func59, Try.ntmps59
      go_wp2_with fail
      refine (MAY.out _).mono ?_
      rintro e w2 ⟨rfl, hb2⟩
      have V2 := Lib.hid (HB.out.next hb2)
      clear hb2 l1
      go_wp2_with fail
      refine (REG.out _).mono ?_
      rintro e w3 ⟨rfl, rfl⟩
      go_wp2_with fail
      go_ret
      exact ⟨by rw [LV.out]; rfl, V2.out.bel⟩
/-- of a call that turns rights: what it was told, and what it will answer. -/
structure RA (w W : World) (L : List Int) : Prop where
  rb : RB W w.heap.size L
  z : RB W (w.heap.size + 1) Z54
  bel : Below w.heap.size w W
section
variable {w W W' : World} {L : List Int}
theorem RA.first (h : L.length = 54) : RA w ((w.alloc (.cells (rgtA L) 42)).alloc (.cells (rgtA Z54) 42)) L := by
  refine ⟨(RB.new w h).alloc _, ?_, ((Below.refl _ _).alloc (Nat.le_refl _) _).alloc (by simp) _⟩
  have := RB.new (w.alloc (.cells (rgtA L) 42)) (L := Z54) rfl
  rwa [show (w.alloc (.cells (rgtA L) 42)).heap.size = w.heap.size + 1 by simp] at this
theorem RA.next (h : RA w W L) (hb : Below W.heap.size W W') : RA w W' L := ⟨h.rb.after hb, h.z.after hb, h.bel.trans (hb.mono h.bel.size)⟩
theorem RA.drew (h : RA w W L) : RA w W.drew L := ⟨h.rb.drew, h.z.drew, h.bel.drew⟩
theorem RA.put (h : RA w W L) (k : Nat) (x : Int) : RA w (W.setCell ⟨w.heap.size, k, none⟩ (.int .i64 x)) (L.set k x) :=
  ⟨h.rb.put k x, h.z.far (p := ⟨w.heap.size, k, none⟩) (by show w.heap.size + 1 ≠ w.heap.size; omega) _, h.bel.setCell (p := ⟨w.heap.size, k, none⟩) (Nat.le_refl _) _⟩
theorem RA.ret (h : RA w W L) (M : List Int) (hM : M.length = 54) : RB (W.setRow (w.heap.size + 1) (rgtA M)) (w.heap.size + 1) M ∧ Below w.heap.size w (W.setRow (w.heap.size + 1) (rgtA M)) :=
  ⟨⟨h.z.blk.row (rgtA M), hM⟩, below_setRow h.bel (by omega) _⟩
end
theorem right_no {L : List Int} {i x : Int} {ks : List Int} (h : ¬ rightR L i x = 0) (E : List Int × Int) : guardR L x (i :: ks) E = (Z54, rightR L i x) := by
  unfold rightR at h ⊢
  unfold guardR
  by_cases h1 : mayR L = true ∧ 1 ≤ x ∧ x ≤ 1125899906842624
  · rw [if_pos h1] at h ⊢
    rw [if_pos h1]
    by_cases h2 : regR i = true
    · rw [if_pos h2] at h; exact absurd rfl h
    · rw [if_neg h2, if_neg (by simp [h2])]
  · rw [if_neg h1, if_neg h1]
theorem right_yes {L : List Int} {i x : Int} (h : rightR L i x = 0) : mayR L = true ∧ (1 ≤ x ∧ x ≤ 1125899906842624) ∧ regR i = true := by
  unfold rightR at h
  by_cases h1 : mayR L = true ∧ 1 ≤ x ∧ x ≤ 1125899906842624
  · rw [if_pos h1] at h
    by_cases h2 : regR i = true
    · exact ⟨h1.1, h1.2, h2⟩
    · rw [if_neg h2] at h; omega
  · rw [if_neg h1] at h; omega
theorem guard_ok {L : List Int} {x : Int} {ks : List Int} (hm : mayR L = true) (hx : 1 ≤ x ∧ x ≤ 1125899906842624) (hk : ks.all regR = true) (E : List Int × Int) : guardR L x ks E = if E.2 = 0 then E else (Z54, E.2) := by
  obtain ⟨M, er⟩ := E
  unfold guardR; rw [if_pos ⟨hm, hx⟩, if_pos hk]
theorem r7give_any (L : List Int) (h : L.length = 54) (i x : Int) (w : World) :
    Calls Try.prog 48 #[.agg (rgtA L), .int .i64 i, .int .i64 x] w fun e w' => e = .returned (.tuple #[.agg (rgtA (giveR L i x).1), .int .i64 (giveR L i x).2]) ∧ Below w.heap.size w w' := by
  have t0 : RA w ((w.alloc (.cells (rgtA L) 42)).alloc (.cells (rgtA Z54) 42)) L := RA.first h
  have RGT := Lib.hid (r7right_any L h i x)
  have aR := run_allocR
  have bR := run_buildR
  have l0 := run_loadR t0.rb
  have H54 := Lib.hid h
  have T0 := Lib.hid t0
  clear t0
  by_cases hr : rightR L i x = 0
  case neg =>
    have EV : Hid (giveR L i x = (Z54, rightR L i x)) := right_no hr _
    generalize rightR L i x = er at RGT EV hr
    clear h
    go_enter Try.func48, Try.ntmps48
    go_wp2_with fail
    refine (RGT.out _).mono ?_
    rintro e w2 ⟨rfl, hb⟩
    have t2 := T0.out.next hb
    have s2 := run_storeR (L := Z54) rfl t2.z.blk rfl
    have T2 := Lib.hid t2
    clear hb l0 t2
    go_wp2_with fail
    exact bodyPost_ret (retR (T2.out.ret Z54 rfl).1 Try.results48 _ rfl) rfl ⟨by rw [EV.out]; rfl, (T2.out.ret Z54 rfl).2⟩
  case pos =>
    obtain ⟨hm, hx, hi⟩ := right_yes hr
    obtain ⟨k, hk, rfl, hk1⟩ := reg_nat hi
    have AM := Lib.hid (amt_may hm)
    have x1 := hx.1
    have x2 := hx.2
    have hk0 : (0 : Int) ≤ (k : Int) := by omega
    have hk6 : (k : Int) < 6 := by omega
    have hkk : (k : Int) + 1 - 1 = (k : Int) := by omega
    rw [hr] at RGT
    have EV0 : Hid (giveR L ((k : Int) + 1) x = if (giveE L k x).2 = 0 then giveE L k x else (Z54, (giveE L k x).2)) := by
      show _ = _
      unfold giveR; rw [hk1]; exact guard_ok hm hx (by simpa using hi) _
    have SU := Lib.hid (r7sums_any L h)
    have SV : Hid (sumsR L = (limitR L, usedR L)) := by show _ = _; unfold sumsR; rw [if_pos hm]
    rw [SV.out] at SU
    have lb : 0 ≤ limitR L ∧ limitR L ≤ 6755399441055744 := by have := sumG_bd AM.out 6 (by omega); unfold limitR; omega
    have lb1 := lb.1
    have lb2 := lb.2
    by_cases hlim : limitR L + x ≤ 1125899906842624
    case neg =>
      have EV : Hid (giveR L ((k : Int) + 1) x = (Z54, 6)) := by show _ = _; rw [EV0.out]; unfold giveE; rw [if_neg hlim]; rfl
      have hlim2 : 1125899906842624 < limitR L + x := by omega
      generalize limitR L = lim at *
      clear hr hm hi h EV0 SV hx lb hlim
      go_enter Try.func48, Try.ntmps48
      go_wp2_with fail
      refine (RGT.out _).mono ?_
      rintro e w2 ⟨rfl, hb⟩
      have t2 := T0.out.next hb
      clear hb l0
      have l2 := run_loadR t2.rb
      go_wp2_with fail
      refine (SU.out _).mono ?_
      rintro e w3 ⟨rfl, hb⟩
      have t3 := t2.next hb
      clear hb l2 t2
      have s2 := run_storeR (L := Z54) rfl t3.z.blk rfl
      have T2 := Lib.hid t3
      clear t3
      go_wp2_with fail
      exact bodyPost_ret (retR (T2.out.ret Z54 rfl).1 Try.results48 _ rfl) rfl ⟨by rw [EV.out]; rfl, (T2.out.ret Z54 rfl).2⟩
    case pos =>
      have EV : Hid (giveR L ((k : Int) + 1) x = (L.set k (gR L k + x), 0)) := by show _ = _; rw [EV0.out]; unfold giveE; rw [if_pos hlim]; rfl
      have hlim2 : ¬ 1125899906842624 < limitR L + x := by omega
      have g1 := (AM.out.g k hk).1
      have g2 := (AM.out.g k hk).2
      generalize limitR L = lim at *
      clear hr hm hi h EV0 SV hx lb hlim
      go_enter Try.func48, Try.ntmps48
      go_wp2_with fail
      refine (RGT.out _).mono ?_
      rintro e w2 ⟨rfl, hb⟩
      have t2 := T0.out.next hb
      clear hb l0
      have l2 := run_loadR t2.rb
      go_wp2_with fail
      refine (SU.out _).mono ?_
      rintro e w3 ⟨rfl, hb⟩
      have t3 := t2.next hb
      clear hb l2 t2
      have c3 := t3.rb.g k hk
      have t9 := t3.put (k) (gR L k + x)
      have ff := t3.rb.blk.frozen (k)
      have l9 := run_loadR t9.rb
      have s9 := run_storeR t9.rb.len t9.z.blk rfl
      have T9 := Lib.hid t9
      clear t3 t9
      generalize gR L k = g at *
      go_wp2_with fail
      exact bodyPost_ret (retR (T9.out.ret _ T9.out.rb.len).1 Try.results48 _ rfl) rfl ⟨by rw [EV.out]; rfl, (T9.out.ret _ T9.out.rb.len).2⟩
theorem r7take_any (L : List Int) (h : L.length = 54) (i x : Int) (w : World) :
    Calls Try.prog 49 #[.agg (rgtA L), .int .i64 i, .int .i64 x] w fun e w' => e = .returned (.tuple #[.agg (rgtA (takeR L i x).1), .int .i64 (takeR L i x).2]) ∧ Below w.heap.size w w' := by
  have t0 : RA w ((w.alloc (.cells (rgtA L) 42)).alloc (.cells (rgtA Z54) 42)) L := RA.first h
  have RGT := Lib.hid (r7right_any L h i x)
  have aR := run_allocR
  have bR := run_buildR
  have l0 := run_loadR t0.rb
  have H54 := Lib.hid h
  have T0 := Lib.hid t0
  clear t0
  by_cases hr : rightR L i x = 0
  case neg =>
    have EV : Hid (takeR L i x = (Z54, rightR L i x)) := right_no hr _
    generalize rightR L i x = er at RGT EV hr
    clear h
    go_enter Try.func49, Try.ntmps49
    go_wp2_with fail
    refine (RGT.out _).mono ?_
    rintro e w2 ⟨rfl, hb⟩
    have t2 := T0.out.next hb
    have s2 := run_storeR (L := Z54) rfl t2.z.blk rfl
    have T2 := Lib.hid t2
    clear hb l0 t2
    go_wp2_with fail
    exact bodyPost_ret (retR (T2.out.ret Z54 rfl).1 Try.results49 _ rfl) rfl ⟨by rw [EV.out]; rfl, (T2.out.ret Z54 rfl).2⟩
  case pos =>
    obtain ⟨hm, hx, hi⟩ := right_yes hr
    obtain ⟨k, hk, rfl, hk1⟩ := reg_nat hi
    have AM := Lib.hid (amt_may hm)
    have x1 := hx.1
    have x2 := hx.2
    have hk0 : (0 : Int) ≤ (k : Int) := by omega
    have hk6 : (k : Int) < 6 := by omega
    have hkk : (k : Int) + 1 - 1 = (k : Int) := by omega
    rw [hr] at RGT
    have EV0 : Hid (takeR L ((k : Int) + 1) x = if (takeE L k x).2 = 0 then takeE L k x else (Z54, (takeE L k x).2)) := by
      show _ = _
      unfold takeR; rw [hk1]; exact guard_ok hm hx (by simpa using hi) _
    have LOC := Lib.hid (r7local_any L h AM.out k hk)
    by_cases hle : x ≤ leftR L k
    case neg =>
      have EV : Hid (takeR L ((k : Int) + 1) x = (Z54, 11)) := by show _ = _; rw [EV0.out]; unfold takeE; rw [if_neg hle]; rfl
      have hl2 : leftR L k < x := by omega
      generalize leftR L k = lf at *
      clear hr hm hi h EV0 hx hle
      go_enter Try.func49, Try.ntmps49
      go_wp2_with fail
      refine (RGT.out _).mono ?_
      rintro e w2 ⟨rfl, hb⟩
      have t2 := T0.out.next hb
      clear hb l0
      have l2 := run_loadR t2.rb
      go_wp2_with fail
      refine (LOC.out _).mono ?_
      rintro e w3 ⟨rfl, hb⟩
      have t3 := t2.next hb
      clear hb l2 t2
      have s2 := run_storeR (L := Z54) rfl t3.z.blk rfl
      have T2 := Lib.hid t3
      clear t3
      go_wp2_with fail
      exact bodyPost_ret (retR (T2.out.ret Z54 rfl).1 Try.results49 _ rfl) rfl ⟨by rw [EV.out]; rfl, (T2.out.ret Z54 rfl).2⟩
    have c1 := (AM.out.c k hk).1
    have c2 := (AM.out.c k hk).2
    by_cases hc : cR L k + x ≤ 1125899906842624
    case neg =>
      have EV : Hid (takeR L ((k : Int) + 1) x = (Z54, 6)) := by show _ = _; rw [EV0.out]; unfold takeE; rw [if_pos hle, if_neg hc]; rfl
      have hl2 : ¬ leftR L k < x := by omega
      have hc2 : 1125899906842624 < cR L k + x := by omega
      generalize leftR L k = lf at *
      clear hr hm hi h EV0 hx hle hc
      go_enter Try.func49, Try.ntmps49
      go_wp2_with fail
      refine (RGT.out _).mono ?_
      rintro e w2 ⟨rfl, hb⟩
      have t2 := T0.out.next hb
      clear hb l0
      have l2 := run_loadR t2.rb
      go_wp2_with fail
      refine (LOC.out _).mono ?_
      rintro e w3 ⟨rfl, hb⟩
      have t3 := t2.next hb
      clear hb l2 t2
      have c3 := t3.rb.c k hk
      generalize cR L k = cc at *
      have s2 := run_storeR (L := Z54) rfl t3.z.blk rfl
      have T2 := Lib.hid t3
      clear t3
      go_wp2_with fail
      exact bodyPost_ret (retR (T2.out.ret Z54 rfl).1 Try.results49 _ rfl) rfl ⟨by rw [EV.out]; rfl, (T2.out.ret Z54 rfl).2⟩
    case pos =>
      have EV : Hid (takeR L ((k : Int) + 1) x = (L.set (6 + k) (cR L k + x), 0)) := by show _ = _; rw [EV0.out]; unfold takeE; rw [if_pos hle, if_pos hc]; rfl
      have hl2 : ¬ leftR L k < x := by omega
      have hc2 : ¬ 1125899906842624 < cR L k + x := by omega
      generalize leftR L k = lf at *
      clear hr hm hi h EV0 hx hle hc
      go_enter Try.func49, Try.ntmps49
      go_wp2_with fail
      refine (RGT.out _).mono ?_
      rintro e w2 ⟨rfl, hb⟩
      have t2 := T0.out.next hb
      clear hb l0
      have l2 := run_loadR t2.rb
      go_wp2_with fail
      refine (LOC.out _).mono ?_
      rintro e w3 ⟨rfl, hb⟩
      have t3 := t2.next hb
      clear hb l2 t2
      have c3 := t3.rb.c k hk
      have t9 := t3.put (6 + k) (cR L k + x)
      have ff := t3.rb.blk.frozen (6 + k)
      have l9 := run_loadR t9.rb
      have s9 := run_storeR t9.rb.len t9.z.blk rfl
      have T9 := Lib.hid t9
      clear t3 t9
      generalize cR L k = cc at *
      go_wp2_with fail
      exact bodyPost_ret (retR (T9.out.ret _ T9.out.rb.len).1 Try.results49 _ rfl) rfl ⟨by rw [EV.out]; rfl, (T9.out.ret _ T9.out.rb.len).2⟩
theorem r7free_any (L : List Int) (h : L.length = 54) (i x : Int) (w : World) :
    Calls Try.prog 50 #[.agg (rgtA L), .int .i64 i, .int .i64 x] w fun e w' => e = .returned (.tuple #[.agg (rgtA (freeR L i x).1), .int .i64 (freeR L i x).2]) ∧ Below w.heap.size w w' := by
  have t0 : RA w ((w.alloc (.cells (rgtA L) 42)).alloc (.cells (rgtA Z54) 42)) L := RA.first h
  have RGT := Lib.hid (r7right_any L h i x)
  have aR := run_allocR
  have bR := run_buildR
  have l0 := run_loadR t0.rb
  have H54 := Lib.hid h
  have T0 := Lib.hid t0
  clear t0
  by_cases hr : rightR L i x = 0
  case neg =>
    have EV : Hid (freeR L i x = (Z54, rightR L i x)) := right_no hr _
    generalize rightR L i x = er at RGT EV hr
    clear h
    go_enter Try.func50, Try.ntmps50
    go_wp2_with fail
    refine (RGT.out _).mono ?_
    rintro e w2 ⟨rfl, hb⟩
    have t2 := T0.out.next hb
    have s2 := run_storeR (L := Z54) rfl t2.z.blk rfl
    have T2 := Lib.hid t2
    clear hb l0 t2
    go_wp2_with fail
    exact bodyPost_ret (retR (T2.out.ret Z54 rfl).1 Try.results50 _ rfl) rfl ⟨by rw [EV.out]; rfl, (T2.out.ret Z54 rfl).2⟩
  case pos =>
    obtain ⟨hm, hx, hi⟩ := right_yes hr
    obtain ⟨k, hk, rfl, hk1⟩ := reg_nat hi
    have AM := Lib.hid (amt_may hm)
    have x1 := hx.1
    have x2 := hx.2
    have hk0 : (0 : Int) ≤ (k : Int) := by omega
    have hk6 : (k : Int) < 6 := by omega
    have hkk : (k : Int) + 1 - 1 = (k : Int) := by omega
    rw [hr] at RGT
    have EV0 : Hid (freeR L ((k : Int) + 1) x = if (freeE L k x).2 = 0 then freeE L k x else (Z54, (freeE L k x).2)) := by
      show _ = _
      unfold freeR; rw [hk1]; exact guard_ok hm hx (by simpa using hi) _
    have c1 := (AM.out.c k hk).1
    have c2 := (AM.out.c k hk).2
    have f1 := (AM.out.f k hk).1
    have f2 := (AM.out.f k hk).2
    by_cases hle : x ≤ cR L k - fR L k
    case neg =>
      have EV : Hid (freeR L ((k : Int) + 1) x = (Z54, 12)) := by show _ = _; rw [EV0.out]; unfold freeE; rw [if_neg hle]; rfl
      have hl2 : cR L k - fR L k < x := by omega
      clear hr hm hi h EV0 hx hle
      go_enter Try.func50, Try.ntmps50
      go_wp2_with fail
      refine (RGT.out _).mono ?_
      rintro e w2 ⟨rfl, hb⟩
      have t2 := T0.out.next hb
      clear hb l0
      have c3 := t2.rb.c k hk
      have c4 := t2.rb.f k hk
      have T2 := Lib.hid t2.drew
      have sd := run_storeR (L := Z54) rfl t2.drew.z.blk rfl
      clear t2 AM
      generalize cR L k = cc at *
      generalize fR L k = fc at *
      go_wp2_with fail
      go_region
      go_wp2_with fail
      exact bodyPost_ret (retR (T2.out.ret Z54 rfl).1 Try.results50 _ rfl) rfl ⟨by rw [EV.out]; rfl, (T2.out.ret Z54 rfl).2⟩
    case pos =>
      have EV : Hid (freeR L ((k : Int) + 1) x = (L.set (12 + k) (fR L k + x), 0)) := by show _ = _; rw [EV0.out]; unfold freeE; rw [if_pos hle]; rfl
      have hl2 : ¬ cR L k - fR L k < x := by omega
      clear hr hm hi h EV0 hx hle
      go_enter Try.func50, Try.ntmps50
      go_wp2_with fail
      refine (RGT.out _).mono ?_
      rintro e w2 ⟨rfl, hb⟩
      have t2 := T0.out.next hb
      clear hb l0
      have c3 := t2.rb.c k hk
      have c4 := t2.rb.f k hk
      have ff := t2.rb.blk.frozen (12 + k)
      have t9 := (t2.put (12 + k) (fR L k + x)).drew
      have l9 := run_loadR t9.rb
      have s9 := run_storeR t9.rb.len t9.z.blk rfl
      have T9 := Lib.hid t9
      clear t2 t9 AM
      generalize cR L k = cc at *
      generalize fR L k = fc at *
      go_wp2_with fail
      go_region
      go_wp2_with fail
      exact bodyPost_ret (retR (T9.out.ret _ T9.out.rb.len).1 Try.results50 _ rfl) rfl ⟨by rw [EV.out]; rfl, (T9.out.ret _ T9.out.rb.len).2⟩
theorem r7move_any (L : List Int) (h : L.length = 54) (i j x : Int) (w : World) :
    Calls Try.prog 51 #[.agg (rgtA L), .int .i64 i, .int .i64 j, .int .i64 x] w fun e w' => e = .returned (.tuple #[.agg (rgtA (moveR L i j x).1), .int .i64 (moveR L i j x).2]) ∧ Below w.heap.size w w' := by
  have t0 : RA w ((w.alloc (.cells (rgtA L) 42)).alloc (.cells (rgtA Z54) 42)) L := RA.first h
  have RGT := Lib.hid (r7right_any L h i x)
  have aR := run_allocR
  have bR := run_buildR
  have l0 := run_loadR t0.rb
  have H54 := Lib.hid h
  have T0 := Lib.hid t0
  clear t0
  by_cases hr : rightR L i x = 0
  case neg =>
    have EV : Hid (moveR L i j x = (Z54, rightR L i x)) := right_no hr _
    generalize rightR L i x = er at RGT EV hr
    clear h
    go_enter Try.func51, Try.ntmps51
    go_wp2_with fail
    refine (RGT.out _).mono ?_
    rintro e w2 ⟨rfl, hb⟩
    have t2 := T0.out.next hb
    have s2 := run_storeR (L := Z54) rfl t2.z.blk rfl
    have T2 := Lib.hid t2
    clear hb l0 t2
    go_wp2_with fail
    exact bodyPost_ret (retR (T2.out.ret Z54 rfl).1 Try.results51 _ rfl) rfl ⟨by rw [EV.out]; rfl, (T2.out.ret Z54 rfl).2⟩
  case pos =>
    obtain ⟨hm, hx, hi⟩ := right_yes hr
    obtain ⟨k, hk, rfl, hk1⟩ := reg_nat hi
    have AM := Lib.hid (amt_may hm)
    have x1 := hx.1
    have x2 := hx.2
    have hk0 : (0 : Int) ≤ (k : Int) := by omega
    have hk6 : (k : Int) < 6 := by omega
    have hkk : (k : Int) + 1 - 1 = (k : Int) := by omega
    rw [hr] at RGT
    have REG := Lib.hid (r7region_any j)
    cases hj : regR j
    case false =>
      rw [hj] at REG
      have EV : Hid (moveR L ((k : Int) + 1) j x = (Z54, 10)) := by show _ = _; unfold moveR guardR; rw [if_pos ⟨hm, hx⟩, if_neg (by simp [hj])]
      clear hr hm hi h hx hj
      go_enter Try.func51, Try.ntmps51
      go_wp2_with fail
      refine (RGT.out _).mono ?_
      rintro e w2 ⟨rfl, hb⟩
      have t2 := T0.out.next hb
      clear hb l0
      have s2 := run_storeR (L := Z54) rfl t2.z.blk rfl
      have T2 := Lib.hid t2
      clear t2
      go_wp2_with fail
      refine (REG.out _).mono ?_
      rintro e w3 ⟨rfl, rfl⟩
      go_wp2_with fail
      exact bodyPost_ret (retR (T2.out.ret Z54 rfl).1 Try.results51 _ rfl) rfl ⟨by rw [EV.out]; rfl, (T2.out.ret Z54 rfl).2⟩
    case true =>
      obtain ⟨q, hq, rfl, hq1⟩ := reg_nat hj
      rw [hj] at REG
      have EV0 : Hid (moveR L ((k : Int) + 1) ((q : Int) + 1) x = if (moveE L k q x).2 = 0 then moveE L k q x else (Z54, (moveE L k q x).2)) := by
        show _ = _
        unfold moveR; rw [hk1, hq1]; exact guard_ok hm hx (by simp [hi, hj]) _
      have LOC := Lib.hid (r7local_any L h AM.out k hk)
      have hq0 : (0 : Int) ≤ (q : Int) := by omega
      have hq6 : (q : Int) < 6 := by omega
      have hqq : (q : Int) + 1 - 1 = (q : Int) := by omega
      by_cases hkq : k = q
      case pos =>
        have EV : Hid (moveR L ((k : Int) + 1) ((q : Int) + 1) x = (Z54, 1)) := by show _ = _; rw [EV0.out]; unfold moveE; rw [if_pos hkq]; rfl
        subst hkq
        clear hr hm hi h EV0 hx hj
        go_enter Try.func51, Try.ntmps51
        go_wp2_with fail
        refine (RGT.out _).mono ?_
        rintro e w2 ⟨rfl, hb⟩
        have t2 := T0.out.next hb
        clear hb l0
        have s2 := run_storeR (L := Z54) rfl t2.z.blk rfl
        have T2 := Lib.hid t2
        clear t2
        go_wp2_with fail
        refine (REG.out _).mono ?_
        rintro e w3 ⟨rfl, rfl⟩
        go_wp2_with fail
        exact bodyPost_ret (retR (T2.out.ret Z54 rfl).1 Try.results51 _ rfl) rfl ⟨by rw [EV.out]; rfl, (T2.out.ret Z54 rfl).2⟩
      have hkq2 : ¬ (k : Int) + 1 = (q : Int) + 1 := by omega
      have hkq3 : (((k : Int) + 1) == ((q : Int) + 1)) = false := by rw [beq_eq_false_iff_ne]; exact hkq2
      by_cases hle : x ≤ leftR L k
      case neg =>
        have EV : Hid (moveR L ((k : Int) + 1) ((q : Int) + 1) x = (Z54, 11)) := by show _ = _; rw [EV0.out]; unfold moveE; rw [if_neg hkq, if_neg hle]; rfl
        have hl2 : leftR L k < x := by omega
        generalize leftR L k = lf at *
        clear hr hm hi h EV0 hx hle hj
        go_enter Try.func51, Try.ntmps51
        go_wp2_with fail
        refine (RGT.out _).mono ?_
        rintro e w2 ⟨rfl, hb⟩
        have t2 := T0.out.next hb
        clear hb l0
        have l2 := run_loadR t2.rb
        go_wp2_with fail
        refine (REG.out _).mono ?_
        rintro e w3 ⟨rfl, rfl⟩
        go_wp2_with fail
        refine (LOC.out _).mono ?_
        rintro e w4 ⟨rfl, hb⟩
        have t3 := t2.next hb
        clear hb l2 t2
        have s2 := run_storeR (L := Z54) rfl t3.z.blk rfl
        have T2 := Lib.hid t3
        clear t3
        go_wp2_with fail
        exact bodyPost_ret (retR (T2.out.ret Z54 rfl).1 Try.results51 _ rfl) rfl ⟨by rw [EV.out]; rfl, (T2.out.ret Z54 rfl).2⟩
      have hl2 : ¬ leftR L k < x := by omega
      have r1 := (AM.out.r k q hk hq).1
      have r2 := (AM.out.r k q hk hq).2
      by_cases hc : rR L k q + x ≤ 1125899906842624
      case neg =>
        have EV : Hid (moveR L ((k : Int) + 1) ((q : Int) + 1) x = (Z54, 6)) := by show _ = _; rw [EV0.out]; unfold moveE; rw [if_neg hkq, if_pos hle, if_neg hc]; rfl
        have hc2 : 1125899906842624 < rR L k q + x := by omega
        generalize leftR L k = lf at *
        clear hr hm hi h EV0 hx hle hj hc
        go_enter Try.func51, Try.ntmps51
        go_wp2_with fail
        refine (RGT.out _).mono ?_
        rintro e w2 ⟨rfl, hb⟩
        have t2 := T0.out.next hb
        clear hb l0
        have l2 := run_loadR t2.rb
        go_wp2_with fail
        refine (REG.out _).mono ?_
        rintro e w3 ⟨rfl, rfl⟩
        go_wp2_with fail
        refine (LOC.out _).mono ?_
        rintro e w4 ⟨rfl, hb⟩
        have t3 := t2.next hb
        have c3 := t3.rb.r k q hk hq
        clear hb l2 t2 AM
        generalize rR L k q = rr at *
        have s2 := run_storeR (L := Z54) rfl t3.z.blk rfl
        have T2 := Lib.hid t3
        clear t3
        go_wp2_with fail
        exact bodyPost_ret (retR (T2.out.ret Z54 rfl).1 Try.results51 _ rfl) rfl ⟨by rw [EV.out]; rfl, (T2.out.ret Z54 rfl).2⟩
      case pos =>
        have EV : Hid (moveR L ((k : Int) + 1) ((q : Int) + 1) x = (L.set (18 + k * 6 + q) (rR L k q + x), 0)) := by show _ = _; rw [EV0.out]; unfold moveE; rw [if_neg hkq, if_pos hle, if_pos hc]; rfl
        have hc2 : ¬ 1125899906842624 < rR L k q + x := by omega
        generalize leftR L k = lf at *
        clear hr hm hi h EV0 hx hle hj hc
        go_enter Try.func51, Try.ntmps51
        go_wp2_with fail
        refine (RGT.out _).mono ?_
        rintro e w2 ⟨rfl, hb⟩
        have t2 := T0.out.next hb
        clear hb l0
        have l2 := run_loadR t2.rb
        go_wp2_with fail
        refine (REG.out _).mono ?_
        rintro e w3 ⟨rfl, rfl⟩
        go_wp2_with fail
        refine (LOC.out _).mono ?_
        rintro e w4 ⟨rfl, hb⟩
        have t3 := t2.next hb
        have c3 := t3.rb.r k q hk hq
        have ff := t3.rb.blk.frozen (18 + k * 6 + q)
        have t9 := (t3.put (18 + k * 6 + q) (rR L k q + x)).drew
        have l9 := run_loadR t9.rb
        have s9 := run_storeR t9.rb.len t9.z.blk rfl
        have T9 := Lib.hid t9
        clear hb l2 t2 t3 t9 AM
        generalize rR L k q = rr at *
        go_wp2_with fail
        go_region
        go_wp2_with fail
        exact bodyPost_ret (retR (T9.out.ret _ T9.out.rb.len).1 Try.results51 _ rfl) rfl ⟨by rw [EV.out]; rfl, (T9.out.ret _ T9.out.rb.len).2⟩
end Go.Proofs.Ytmddbpkojboogaa
