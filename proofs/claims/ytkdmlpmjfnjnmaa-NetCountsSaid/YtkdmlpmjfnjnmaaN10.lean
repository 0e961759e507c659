import Derived.Test.YtkdmlpmjfnjnmaaN9
import Derived.Test.YtkdmlpmjfnjnmaaRei
namespace Go.Proofs.Ytkdmlpmjfnjnmaa
open Go Go.RowKit Sv
set_option linter.unusedVariables false
set_option maxRecDepth 100000
set_option maxHeartbeats 0
def EvI.rng (e : EvI) : Prop := (0 ≤ e.s ∧ e.s ≤ 18446744073709551615) ∧ (0 ≤ e.d0 ∧ e.d0 ≤ 18446744073709551615) ∧ (0 ≤ e.d1 ∧ e.d1 ≤ 18446744073709551615) ∧ (0 ≤ e.d2 ∧ e.d2 ≤ 18446744073709551615) ∧ (0 ≤ e.d3 ∧ e.d3 ≤ 18446744073709551615) ∧ (0 ≤ e.d4 ∧ e.d4 ≤ 18446744073709551615) ∧ (0 ≤ e.d5 ∧ e.d5 ≤ 18446744073709551615) ∧ (0 ≤ e.k ∧ e.k ≤ 255) ∧ (0 ≤ e.n ∧ e.n ≤ 18446744073709551615) ∧ (0 ≤ e.r ∧ e.r ≤ 18446744073709551615) ∧ (0 ≤ e.f ∧ e.f ≤ 18446744073709551615)
def MsI.rng (m : MsI) : Prop := (0 ≤ m.v0 ∧ m.v0 ≤ 18446744073709551615) ∧ (0 ≤ m.v1 ∧ m.v1 ≤ 18446744073709551615) ∧ (0 ≤ m.v2 ∧ m.v2 ≤ 18446744073709551615) ∧ (0 ≤ m.v3 ∧ m.v3 ≤ 18446744073709551615) ∧ (0 ≤ m.v4 ∧ m.v4 ≤ 18446744073709551615) ∧ (0 ≤ m.v5 ∧ m.v5 ≤ 18446744073709551615) ∧ (0 ≤ m.n ∧ m.n ≤ 18446744073709551615)
section
variable {P : Program} {w : World} {H : Type} {enc : TypeId × Value → H} {base : Nat} {sp : Nat → Bool} {held : Bool}
theorem reif_map {t : TypeId} {X Y : Type} {row : X → List AV} {Q : X → Prop} {row' : Y → List AV} {Q' : Y → Prop} (h : Reif enc P w base sp held t X row Q) (g : X → Y) (h1 : ∀ x ρ vs, Q x → VDs ρ (row x) vs → VDs ρ (row' (g x)) vs) (h2 : ∀ x, Q x → Q' (g x)) : Reif enc P w base sp held t Y row' Q' := fun fuel cs d hd => by
  obtain ⟨x, hx, hq⟩ := h fuel cs d hd
  exact ⟨g x, h1 x _ _ hq hx, h2 x hq⟩
theorem u64_rng {x : Int} (h : IntKind.u64.min ≤ x ∧ x ≤ IntKind.u64.max) : 0 ≤ x ∧ x ≤ 18446744073709551615 := by
  have e : IntKind.u64.min = 0 := by decide
  have e' : IntKind.u64.max = 18446744073709551615 := by decide
  omega
theorem u8_rng {x : Int} (h : IntKind.u8.min ≤ x ∧ x ≤ IntKind.u8.max) : 0 ≤ x ∧ x ≤ 255 := by
  have e : IntKind.u8.min = 0 := by decide
  have e' : IntKind.u8.max = 255 := by decide
  omega
instance : Inhabited EvI := ⟨⟨0, 0, 0, 0, 0, 0, 0, 0, 0, 0, 0, 0, 0, 0⟩⟩
theorem reif_vec : Reif enc Try.prog w base sp held 35 (Nat → Int) (fun f => (List.range 6).flatMap fun i => [.sint .u64 (f i)]) (fun f => ∀ i, i < 6 → IntKind.u64.min ≤ f i ∧ f i ≤ IntKind.u64.max) :=
  reif_array 6 1 Try.underlying35 (by kernel_rfl) (by kernel_rfl) (reif_int .u64 Try.underlying33)
theorem reif_ev : Reif enc Try.prog w base sp held 44 EvI EvI.row EvI.rng :=
  reif_map (reif_struct Try.underlying44 (reif_field (z := 1) rfl (by kernel_rfl) (reif_int .i64 Try.underlying3) (reif_field (z := 1) rfl (by kernel_rfl) (reif_int .u64 Try.underlying33) (reif_field (z := 6) rfl (by kernel_rfl) reif_vec (reif_field (z := 1) rfl (by kernel_rfl) (reif_int .u8 Try.underlying5) (reif_field (z := 1) rfl (by kernel_rfl) (reif_int .u64 Try.underlying33)
    (reif_field (z := 1) rfl (by kernel_rfl) (reif_int .i64 Try.underlying3) (reif_field (z := 1) rfl (by kernel_rfl) (reif_int .i64 Try.underlying2) (reif_field (z := 1) rfl (by kernel_rfl) (reif_int .u64 Try.underlying33) (reif_field (z := 1) rfl (by kernel_rfl) (reif_int .u64 Try.underlying33) (reif_end (of_decide_eq_true (by kernel_rfl)))))))))))))
    (fun x => ⟨x.1, x.2.1, x.2.2.1 0, x.2.2.1 1, x.2.2.1 2, x.2.2.1 3, x.2.2.1 4, x.2.2.1 5, x.2.2.2.1, x.2.2.2.2.1, x.2.2.2.2.2.1, x.2.2.2.2.2.2.1, x.2.2.2.2.2.2.2.1, x.2.2.2.2.2.2.2.2.1⟩)
    (fun x ρ vs _ h => h)
    (fun x ⟨_, h1, h2, h3, h4, _, _, h5, h6, _⟩ => ⟨u64_rng h1, u64_rng (h2 0 (by decide)), u64_rng (h2 1 (by decide)), u64_rng (h2 2 (by decide)), u64_rng (h2 3 (by decide)), u64_rng (h2 4 (by decide)), u64_rng (h2 5 (by decide)), u8_rng h3, u64_rng h4, u64_rng h5, u64_rng h6⟩)
def MsX : Type := MsI × Nat × (Nat → EvI)
def MsX.row (x : MsX) : List AV := x.1.row (evs x.2.1 x.2.2)
def MsX.rng (x : MsX) : Prop := x.1.rng ∧ x.2.1 ≤ maxLen ∧ ∀ j, j < x.2.1 → (x.2.2 j).rng
theorem reif_ms : Reif enc Try.prog w base sp held 38 MsX MsX.row MsX.rng :=
  reif_map (reif_struct Try.underlying38 (reif_field (z := 1) rfl (by kernel_rfl) (reif_int .u8 Try.underlying5) (reif_field (z := 1) rfl (by kernel_rfl) (reif_int .i64 Try.underlying3) (reif_field (z := 1) rfl (by kernel_rfl) (reif_int .i64 Try.underlying3) (reif_field (z := 6) rfl (by kernel_rfl) reif_vec
    (reif_field (z := 1) rfl (by kernel_rfl) (reif_slice 14 Try.underlying36 (by kernel_rfl) (by decide) (fun _ => rfl) reif_ev) (reif_field (z := 1) rfl (by kernel_rfl) (reif_int .u64 Try.underlying33) (reif_field (z := 1) rfl (by kernel_rfl) (reif_int .i64 Try.underlying2) (reif_end (of_decide_eq_true (by kernel_rfl)))))))))))
    (fun x => (⟨x.1, x.2.1, x.2.2.1, x.2.2.2.1 0, x.2.2.2.1 1, x.2.2.2.1 2, x.2.2.2.1 3, x.2.2.2.1 4, x.2.2.2.1 5, x.2.2.2.2.2.1, x.2.2.2.2.2.2.1⟩, x.2.2.2.2.1.1, x.2.2.2.2.1.2))
    (fun x ρ vs _ h => h)
    (fun x ⟨_, _, _, h2, h5, h6, _⟩ => ⟨⟨u64_rng (h2 0 (by decide)), u64_rng (h2 1 (by decide)), u64_rng (h2 2 (by decide)), u64_rng (h2 3 (by decide)), u64_rng (h2 4 (by decide)), u64_rng (h2 5 (by decide)), u64_rng h6⟩, h5⟩)
def StM.rng (s : StM) : Prop := (0 ≤ s.d ∧ s.d ≤ 255) ∧ (s.x.m.rng ∧ s.x.q ≤ maxLen ∧ ∀ j, j < s.x.q → (s.x.E j).rng) ∧ (-9223372036854775808 ≤ s.K ∧ s.K ≤ 9223372036854775807) ∧ (-9223372036854775808 ≤ s.J ∧ s.J ≤ 9223372036854775807)
theorem i64_rng {x : Int} (h : IntKind.i64.min ≤ x ∧ x ≤ IntKind.i64.max) : -9223372036854775808 ≤ x ∧ x ≤ 9223372036854775807 := by
  have e : IntKind.i64.min = -9223372036854775808 := by decide
  have e' : IntKind.i64.max = 9223372036854775807 := by decide
  omega
instance : Inhabited StM := ⟨⟨0, nm0, 0, 0⟩⟩
theorem reif_st : Reif enc Try.prog w base sp held 40 StM StM.row StM.rng :=
  reif_map (reif_struct Try.underlying40 (reif_field (z := 1) rfl (by kernel_rfl) (reif_int .u8 Try.underlying5) (reif_field (z := 12) rfl (by kernel_rfl) reif_ms (reif_field (z := 1) rfl (by kernel_rfl) (reif_int .i64 Try.underlying3) (reif_field (z := 1) rfl (by kernel_rfl) (reif_int .i64 Try.underlying3) (reif_end (of_decide_eq_true (by kernel_rfl))))))))
    (fun x => ⟨x.1, ⟨x.2.1.1, x.2.1.2.1, x.2.1.2.2⟩, x.2.2.1, x.2.2.2.1⟩)
    (fun x ρ vs _ h => h)
    (fun x ⟨h1, h2, h3, h4, _⟩ => ⟨u8_rng h1, h2, i64_rng h3, i64_rng h4⟩)
end
/-- a step, made small where it is not looked at. -/
def fixE (s : StM) : StM := ⟨s.d, ⟨s.x.m, s.x.q, fun j => if j < s.x.q then s.x.E j else ev0⟩, s.K, s.J⟩
def fixS (n : Nat) (S : Nat → StM) (i : Nat) : StM := if i < n then fixE (S i) else ⟨0, nm0, 0, 0⟩
theorem vd_rows {ρ : Ctx} {z n : Nat} {f g : Nat → List AV} {v : Value} (h : ∀ i, i < n → ∀ vs, VDs ρ (f i) vs → VDs ρ (g i) vs) (hl : ∀ i, i < n → (g i).length = (f i).length) (hv : VD ρ (.data z n f) v) : VD ρ (.data z n g) v := by
  cases hv with
  | data _ _ _ b off cap c elem fr hd hcap hsz hlen hrow => exact .data _ _ _ b off cap c elem fr hd hcap hsz (fun i hi => (hl i hi).trans (hlen i hi)) fun i hi => h i hi _ (hrow i hi)
  | data0 _ _ a c => exact .data0 _ _ _ _
  | dataN _ _ => exact .dataN _ _
theorem runs_args {P : Program} {k : Nat} {as' bs : List AV} {R : AV → List NewB → Prop} (h : ∀ ρ vs, VDs ρ as' vs → VDs ρ bs vs) (hr : Runs P k bs R) : Runs P k as' R :=
  ⟨hr.1, fun ρ w vs h1 h2 hv => hr.2 ρ w vs h1 h2 (h _ _ hv)⟩
theorem fix_row {ρ : Ctx} {vs : List Value} (s : StM) (h : VDs ρ s.row vs) : VDs ρ (fixE s).row vs := by
  unfold StM.row at h
  cases h with
  | cons _ v0 _ m0 h0 h =>
    cases h with
    | cons _ v1 _ m1 h1 h =>
      cases h with
      | cons _ v2 _ m2 h2 h =>
        cases h with
        | cons _ v3 _ m3 h3 h =>
          cases h with
          | cons _ v4 _ m4 h4 h =>
            cases h with
            | cons _ v5 _ m5 h5 h =>
              cases h with
              | cons _ v6 _ m6 h6 h =>
                cases h with
                | cons _ v7 _ m7 h7 h =>
                  cases h with
                  | cons _ v8 _ m8 h8 h =>
                    cases h with
                    | cons _ v9 _ m9 h9 h =>
                      cases h with
                      | cons _ v10 _ m10 h10 h =>
                        exact (.cons _ _ _ _ h0 (.cons _ _ _ _ h1 (.cons _ _ _ _ h2 (.cons _ _ _ _ h3 (.cons _ _ _ _ h4 (.cons _ _ _ _ h5 (.cons _ _ _ _ h6 (.cons _ _ _ _ h7 (.cons _ _ _ _ h8 (.cons _ _ _ _ h9 (.cons _ _ _ _ (vd_rows (z := 14) (n := s.x.q) (f := fun i => (s.x.E i).row) (g := fun j => ((fixE s).x.E j).row) (fun j hj vs h => by show VDs ρ (if j < s.x.q then s.x.E j else ev0).row vs; rw [if_pos hj]; exact h) (fun j hj => rfl) h10) h)))))))))))
theorem ev0_rng : ev0.rng := by unfold EvI.rng ev0; decide
end Go.Proofs.Ytkdmlpmjfnjnmaa
