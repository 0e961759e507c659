import Derived.Test.YtkebdfbdneggkaaGreatUd
import Derived.Test.YtkebdfbdneggkaaGreatRei
namespace Go.Proofs.YtkebdfbdneggkaaGreat
open Go Go.RowKit Sv
set_option linter.unusedVariables false
set_option maxRecDepth 100000
set_option maxHeartbeats 0
section
variable {P : Program} {w : World} {H : Type} {enc : TypeId × Value → H} {base : Nat} {sp : Nat → Bool} {held : Bool}
theorem reif_map {t : TypeId} {X Y : Type} {row : X → List AV} {Q : X → Prop} {row' : Y → List AV} {Q' : Y → Prop} (h : Reif enc P w base sp held t X row Q) (g : X → Y) (h1 : ∀ x ρ vs, Q x → VDs ρ (row x) vs → VDs ρ (row' (g x)) vs) (h2 : ∀ x, Q x → Q' (g x)) : Reif enc P w base sp held t Y row' Q' := fun fuel cs d hd => by
  obtain ⟨x, hx, hq⟩ := h fuel cs d hd
  exact ⟨g x, h1 x _ _ hq hx, h2 x hq⟩
theorem u64_rng {x : Int} (h : IntKind.u64.min ≤ x ∧ x ≤ IntKind.u64.max) : 0 ≤ x ∧ x ≤ 18446744073709551615 := by
  have e : IntKind.u64.min = 0 := by decide
  have e' : IntKind.u64.max = 18446744073709551615 := by decide
  omega
theorem u8_rng {x : Int} (h : IntKind.u8.min ≤ x ∧ x ≤ IntKind.u8.max) : 0 ≤ x ∧ x ≤ 255 := by
  have e : IntKind.u8.min = 0 := by decide
  have e' : IntKind.u8.max = 255 := by decide
  omega
def StX : Type := StI × Nat × (Nat → Int)
def StX.row (x : StX) : List AV := x.1.row (ints x.2.1 x.2.2)
def StX.rng (x : StX) : Prop := x.1.rng ∧ x.2.1 ≤ maxLen
theorem reif_ask : Reif enc Tryz.prog w base sp held 24 (Int × Int × Int × Int × Int × Int) (fun x => [.sint .u8 x.1, .sint .u64 x.2.1, .sint .i64 x.2.2.1, .sint .i64 x.2.2.2.1, .sint .u64 x.2.2.2.2.1, .sint .u64 x.2.2.2.2.2]) (fun x => (0 ≤ x.1 ∧ x.1 ≤ 255) ∧ (0 ≤ x.2.1 ∧ x.2.1 ≤ 18446744073709551615) ∧ (0 ≤ x.2.2.2.2.1 ∧ x.2.2.2.2.1 ≤ 18446744073709551615) ∧ (0 ≤ x.2.2.2.2.2 ∧ x.2.2.2.2.2 ≤ 18446744073709551615)) :=
  reif_map (reif_struct Tryz.underlying24 (reif_field (z := 1) rfl (by kernel_rfl) (reif_int .u8 Tryz.underlying5) (reif_field (z := 1) rfl (by kernel_rfl) (reif_int .u64 Tryz.underlying22) (reif_field (z := 1) rfl (by kernel_rfl) (reif_int .i64 Tryz.underlying3) (reif_field (z := 1) rfl (by kernel_rfl) (reif_int .i64 Tryz.underlying2)
    (reif_field (z := 1) rfl (by kernel_rfl) (reif_int .u64 Tryz.underlying22) (reif_field (z := 1) rfl (by kernel_rfl) (reif_int .u64 Tryz.underlying22) (reif_end (of_decide_eq_true (by kernel_rfl))))))))))
    (fun x => (x.1, x.2.1, x.2.2.1, x.2.2.2.1, x.2.2.2.2.1, x.2.2.2.2.2.1))
    (fun x ρ vs _ h => h)
    (fun x ⟨h1, h2, _, _, h3, h4, _⟩ => ⟨u8_rng h1, u64_rng h2, u64_rng h3, u64_rng h4⟩)
theorem reif_step : Reif enc Tryz.prog w base sp held 27 StX StX.row StX.rng :=
  reif_map (reif_struct Tryz.underlying27 (reif_field (z := 1) rfl (by kernel_rfl) (reif_int .u8 Tryz.underlying5) (reif_field (z := 1) rfl (by kernel_rfl) (reif_int .i64 Tryz.underlying3) (reif_field (z := 6) rfl (by kernel_rfl) reif_ask (reif_field (z := 1) rfl (by kernel_rfl) (reif_int .i64 Tryz.underlying3)
    (reif_field (z := 1) rfl (by kernel_rfl) (reif_int .i64 Tryz.underlying3) (reif_field (z := 1) rfl (by kernel_rfl) (reif_int .i64 Tryz.underlying3) (reif_field (z := 1) rfl (by kernel_rfl) (reif_slice 1 Tryz.underlying25 (by kernel_rfl) (by decide) (fun _ => rfl) (reif_int .i64 Tryz.underlying3)) (reif_end (of_decide_eq_true (by kernel_rfl)))))))))))
    (fun x => (⟨x.1, x.2.1, x.2.2.1.1, x.2.2.1.2.1, x.2.2.1.2.2.1, x.2.2.1.2.2.2.1, x.2.2.1.2.2.2.2.1, x.2.2.1.2.2.2.2.2, x.2.2.2.1, x.2.2.2.2.1, x.2.2.2.2.2.1⟩, x.2.2.2.2.2.2.1.1, x.2.2.2.2.2.2.1.2))
    (fun x ρ vs _ h => h)
    (fun x ⟨h1, _, h2, _, _, _, h3, _⟩ => ⟨⟨u8_rng h1, h2.1, h2.2.1, h2.2.2.1, h2.2.2.2⟩, h3.1⟩)
theorem reif_by : Reif enc Tryz.prog w base sp held 28 (Nat × (Nat → Nat)) (fun p => [.data 1 p.1 (by8 p.2)]) (fun p => p.1 ≤ maxLen) :=
  reif_map (reif_slice 1 Tryz.underlying28 (by kernel_rfl) (by decide) (fun _ => rfl) (reif_int .u8 Tryz.underlying5))
    (fun p => (p.1, fun i => (p.2 i).toNat))
    (fun x ρ vs q h => by
      cases h with
      | cons _ v _ m h t =>
        refine .cons _ _ _ _ (vd_ext (fun i hi => ?_) h) t
        have := u8_rng (q.2 i hi)
        show [AV.sint .u8 (x.2 i)] = [AV.sint .u8 (((x.2 i).toNat % 256 : Nat) : Int)]
        rw [show (((x.2 i).toNat % 256 : Nat) : Int) = x.2 i by omega])
    (fun x q => q.1)
end
theorem works : Runs Tryz.prog 5 [] fun x G => x = .bool true ∧ G = [] :=
  runs_closed plain mixed rfl rfl 1000000 (by kernel_rfl)
theorem vlaw (x : StX) (hx : x.rng) (p : Nat × (Nat → Nat)) (hp : p.1 ≤ maxLen) (c : Int) (hc : IntKind.u16.min ≤ c ∧ c ≤ IntKind.u16.max) (b : Int) (hb : IntKind.u8.min ≤ b ∧ b ≤ IntKind.u8.max) : Runs Tryz.prog 3 [.agg x.row, .data 1 p.1 (by8 p.2), .sint .u16 c, .sint .u8 b] fun y G => y = .bool true ∧ G = [] := by
  have e : maxLen = 9223372036854775807 := by decide
  have h1 := hx.2
  have e1 : IntKind.u16.min = 0 := by decide
  have e2 : IntKind.u16.max = 65535 := by decide
  have h3 := u8_rng hb
  exact law29 works x.1 x.2.1 x.2.2 (by omega) hx.1 p.1 p.2 (by omega) c (by omega) b h3
end Go.Proofs.YtkebdfbdneggkaaGreat
