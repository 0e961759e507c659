import Derived.Test.YtmddbpkojboogaaRgA
import Derived.Test.YtmddbpkojboogaaMix
namespace Go.Proofs.Ytmddbpkojboogaa
open Go.RowKit
/-! rights: what a region has left. -/
set_option maxRecDepth 20000 in
theorem left_any (L : List Int) (h : L.length = 54) (ha : Amt L) (k : Nat) (hk : k < 6) (w : World) :
    Calls Try.prog 44 #[.agg (rgtA L), .int .i64 (k : Int)] w fun e w' => e = .returned (.int .i64 (leftR L k)) ∧ Below w.heap.size w w' := by
  have hb := (Below.refl w.heap.size w).alloc (Nat.le_refl _) (.cells (rgtA L) 42)
  have hr := RB.new w h
  have HA := Lib.hid ha
  have hk0 : (0 : Int) ≤ (k : Int) := by omega
  have hk6 : (k : Int) < 6 := by omega
  clear h ha
  go_enter Try.func44, Try.ntmps44
  go_wp2_with fail
  generalize w.alloc (.cells (rgtA L) 42) = W1 at hb hr
  have c1 := hr.g k hk
  have c2 := hr.c k hk
  have c3 := hr.f k hk
  have b1 := HA.out.g k hk
  have b2 := HA.out.c k hk
  have b3 := HA.out.f k hk
  have e0 : Hid (leftTo L k 0 = gR L k - cR L k + fR L k) := rfl
  generalize gR L k = x1 at c1 b1 e0
  generalize cR L k = x2 at c2 b2 e0
  generalize fR L k = x3 at c3 b3 e0
  have b11 := b1.1
  have b12 := b1.2
  have b21 := b2.1
  have b22 := b2.2
  have b31 := b3.1
  have b32 := b3.2
  have HR := Lib.hid hr
  have HB := Lib.hid hb
  clear b1 b2 b3 hr hb
  go_quiet (fail)
  go_wp2_with fail
  go_loopw [5, 21] (fun s v wr => ∃ j : Nat, j ≤ 6 ∧ v = .int .i64 (j : Int) ∧ s = .int .i64 (leftTo L k j) ∧ RB wr w.heap.size L ∧ Below w.heap.size w wr) (fun _ v _ => 6 - (intOf v).toNat)
  case atStart => exact ⟨0, by omega, rfl, by rw [e0.out], HR.out.drewN _, Below.drewM HB.out _⟩
  case round =>
    clear e0 c1 c2 c3 b11 b12 b21 b22 b31 b32 HR HB
    obtain ⟨j, hj, rfl, rfl, hr, hb⟩ := hrel
    by_cases hlt : j < 6
    · have hj0 : (0 : Int) ≤ (j : Int) := by omega
      have hj6 : (j : Int) < 6 := by omega
      have c1 := hr.r j k hlt hk
      have c2 := hr.r k j hk hlt
      have b1 := HA.out.r j k hlt hk
      have b2 := HA.out.r k j hk hlt
      have bs := left_bd HA.out k hk j (by omega)
      have e1 : Hid (leftTo L k (j + 1) = leftTo L k j + (rR L j k - rR L k j)) := rfl
      generalize rR L j k = x1 at c1 b1 e1
      generalize rR L k j = x2 at c2 b2 e1
      generalize leftTo L k j = s at bs e1
      have b11 := b1.1
      have b12 := b1.2
      have b21 := b2.1
      have b22 := b2.2
      have bs1 : -7881299347898368 ≤ s := by have := bs.1; omega
      have bs2 : s ≤ 9007199254740992 := by have := bs.2; omega
      have HR := Lib.hid hr
      have HB := Lib.hid hb
      clear b1 b2 bs hr hb
      go_wp2_with fail
      go_quiet (fail)
      go_wp2_with fail
      exact ⟨⟨j + 1, by omega, by go_num, by rw [e1.out], HR.out.drewN _, Below.drewM HB.out _⟩, by simp [intOf]; omega⟩
    · obtain rfl : j = 6 := by omega
      have HB := Lib.hid hb
      clear hb hr
      rw [show leftTo L k 6 = leftR L k from rfl]
      go_wp2_with fail
      go_ret
      exact ⟨rfl, HB.out⟩
end Go.Proofs.Ytmddbpkojboogaa
