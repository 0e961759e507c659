import Derived.Test.YtkdmlpmjfnjnmaaTrb
/-! ends and heads where one block is named. -/
namespace Go.Proofs.Ytkdmlpmjfnjnmaa.Sv
open Go Go.RowKit
set_option linter.unusedVariables false
set_option linter.unusedSimpArgs false
variable {P : Program} {o lp : Nat → Bool} {n0 : Nat} {R : AV → List NewB → Prop} {t : T}
theorem look_one {H : AH} {j : Nat} {b : Option Blk} {s : Option (Nat × Nat × (Nat → List AV))} (h : look H [j] = [(b, s)]) : H.tr.get j = b ∧ seqAt H j = s := by
  have e : look H [j] = [(H.tr.get j, seqAt H j)] := rfl
  rw [e] at h
  simpa using h
theorem look_hd {H : AH} {j : Nat} {l : List Nat} {b : Option Blk × Option (Nat × Nat × (Nat → List AV))} {r : List (Option Blk × Option (Nat × Nat × (Nat → List AV)))} (h : look H (j :: l) = b :: r) : look H [j] = [b] := by
  have e : look H (j :: l) = (H.tr.get j, seqAt H j) :: look H l := rfl
  rw [e] at h
  have e' : look H [j] = [(H.tr.get j, seqAt H j)] := rfl
  rw [e', (List.cons.inj h).1]
theorem look_tl {H : AH} {j : Nat} {l : List Nat} {b : Option Blk × Option (Nat × Nat × (Nat → List AV))} {r : List (Option Blk × Option (Nat × Nat × (Nat → List AV)))} (h : look H (j :: l) = b :: r) : look H l = r := by
  have e : look H (j :: l) = (H.tr.get j, seqAt H j) :: look H l := rfl
  rw [e] at h
  exact (List.cons.inj h).2
theorem fits_cells {H : AH} {j c : Nat} {gr : Option Nat} {cs ds : List AV} {as bs : List AV} {s : Option (Nat × Nat × (Nat → List AV))} (hb : look H [j] = [(some (.cells c gr cs), s)]) (hx : fitsA [some j] bs as) (hd : fitsA [some j] ds cs) : Fits [some j] as H bs [.cells gr ds] :=
  ⟨hx, ⟨⟨c, cs, (look_one hb).1, hd⟩, trivial⟩, by simp⟩
theorem fits_seq {H : AH} {j z n m : Nat} {b : Option Blk} {f f' : Nat → List AV} {as bs : List AV} (hb : look H [j] = [(b, some (z, m, f))]) (hx : fitsA [some j] bs as) (hn : n ≤ m) (hf : ∀ i, i < n → f' i = f i ∧ nfs (f' i) = true) : Fits [some j] as H bs [.seq z n f'] :=
  ⟨hx, ⟨.inl ⟨m, f, (look_one hb).2, hn, hf⟩, trivial⟩, by simp⟩
theorem fits_none {H : AH} {z : Nat} {f' : Nat → List AV} {as bs : List AV} (hx : fitsA [none] bs as) : Fits [none] as H bs [.seq z 0 f'] :=
  ⟨hx, ⟨rfl, trivial⟩, by simp⟩
/-- own cells, told as rows. -/
theorem fits_rows {H : AH} {j c z n : Nat} {cs : List AV} {f' : Nat → List AV} {s : Option (Nat × Nat × (Nat → List AV))} {xs bs : List AV} (hb : look H [j] = [(some (.cells c (some z) cs), s)]) (hx : fitsA [some j] bs xs) (hz : 0 < z) (hn : n * z ≤ cs.length) (hf : ∀ i, i < n → f' i = (cs.drop (i * z)).take z ∧ nfs (f' i) = true) : Fits [some j] xs H bs [.seq z n f'] :=
  ⟨hx, ⟨.inr ⟨c, cs, (look_one hb).1, hz, hn, hf⟩, trivial⟩, by simp⟩
/-- it ends with a block of cells. -/
theorem ok_leafC {x y : AV} {j c : Nat} {gr : Option Nat} {cs : List AV} {s : Option (Nat × Nat × (Nat → List AV))} (h : t.hd = .leaf x) (hb : look t.heap [j] = [(some (.cells c gr cs), s)]) (hx : fitA [some j] y x) (hn : nfs cs = true) (hR : R y [.cells gr cs]) : t.ok P o lp n0 R :=
  ok_leaf h (fits_cells hb ⟨hx, trivial⟩ (fitsA_self cs hn)) hR
/-- it ends with rows. -/
theorem ok_leafG {x y : AV} {j z n m : Nat} {b : Option Blk} {f f' : Nat → List AV} (h : t.hd = .leaf x) (hb : look t.heap [j] = [(b, some (z, m, f))]) (hx : fitA [some j] y x) (hn : n ≤ m) (hf : ∀ i, i < n → f' i = f i ∧ nfs (f' i) = true) (hR : R y [.seq z n f']) : t.ok P o lp n0 R :=
  ok_leaf h (fits_seq hb ⟨hx, trivial⟩ hn hf) hR
theorem hold_leftD0 {p : Prop} {d : Decidable p} {x : Sk} (hp : p) (h1 : x.holds P o lp n0 R t.left) : (Sk.left (@decide p d) x).holds P o lp n0 R t := ⟨@decide_eq_true p d hp, h1⟩
theorem hold_rightD0 {p : Prop} {d : Decidable p} {x : Sk} (hp : ¬ p) (h1 : x.holds P o lp n0 R t.right) : (Sk.right (@decide p d) x).holds P o lp n0 R t := ⟨@decide_eq_false p d hp, h1⟩
theorem hold_left0 {c : Bool} {x : Sk} (hp : c = true) (h1 : x.holds P o lp n0 R t.left) : (Sk.left c x).holds P o lp n0 R t := ⟨hp, h1⟩
theorem hold_right0 {c : Bool} {x : Sk} (hp : c = false) (h1 : x.holds P o lp n0 R t.right) : (Sk.right c x).holds P o lp n0 R t := ⟨hp, h1⟩
theorem look_two {H : AH} {i j : Nat} {a b : Option Blk × Option (Nat × Nat × (Nat → List AV))} (h : look H [i, j] = [a, b]) : H.tr.get i = a.1 ∧ H.tr.get j = b.1 := by
  have e : look H [i, j] = [(H.tr.get i, seqAt H i), (H.tr.get j, seqAt H j)] := rfl
  rw [e] at h
  simp only [List.cons.injEq, and_true] at h
  exact ⟨(congrArg Prod.fst h.1), congrArg Prod.fst h.2⟩
theorem vrs_ptr {ρ : Ctx} {E : Env} {k o : Nat} : ∀ {bs : List AV} {vs : List Value}, VRs ρ E bs vs → AV.ptr k o ∈ bs → ∃ r, E k = some r
  | [], _, _, hm => by simp at hm
  | b :: bs, _, .cons _ v _ m h1 h2, hm => by
    rcases List.mem_cons.1 hm with e | hm
    · subst e
      cases h1 with
      | ptr _ _ r hr => exact ⟨r, hr⟩
    · exact vrs_ptr h2 hm
/-- two blocks of cells, told as a contract's. -/
theorem fits_two {H : AH} {j0 j1 c0 c1 : Nat} {g0 g1 : Option Nat} {cs0 cs1 ds0 ds1 xs bs : List AV} {s0 s1 : Option (Nat × Nat × (Nat → List AV))}
    (hb : look H [j0, j1] = [(some (.cells c0 g0 cs0), s0), (some (.cells c1 g1 cs1), s1)]) (hc : c0 ≠ c1) (hx : fitsA [some j0, some j1] bs xs) (h0 : fitsA [some j0, some j1] ds0 cs0) (h1 : fitsA [some j0, some j1] ds1 cs1) : Fits [some j0, some j1] xs H bs [.cells g0 ds0, .cells g1 ds1] := by
  obtain ⟨a0, a1⟩ := look_two hb
  refine ⟨hx, ⟨⟨_, _, a0, h0⟩, ⟨_, _, a1, h1⟩, trivial⟩, ?_⟩
  simp [AH.clsOf, a0, a1, Blk.cls, hc]
/-- a call that writes two blocks of cells of its caller's. -/
theorem ok_callM2 {f j0 j1 c0 c1 o0 o1 : Nat} {args bs : List AV} {g0 g1 : Option Nat} {cs0 cs1 ds0 ds1 : List AV} {s0 s1 : Option (Nat × Nat × (Nat → List AV))} {R' : AV → List NewB → Prop} (hd : t.hd = .call f args) (hr : RunsM P f [.cells g0 ds0, .cells g1 ds1] bs R')
    (hb : look t.heap [j0, j1] = [(some (.cells c0 g0 cs0), s0), (some (.cells c1 g1 cs1), s1)]) (hc : c0 ≠ c1) (hj : j0 ≠ j1) (ha : alone t.heap [j0, j1] = true) (hx : fitsA [some j0, some j1] bs args) (h0 : fitsA [some j0, some j1] ds0 cs0) (h1 : fitsA [some j0, some j1] ds1 cs1) (p0 : AV.ptr 0 o0 ∈ bs) (p1 : AV.ptr 1 o1 ∈ bs)
    (hk : ∀ x G, R' x G → (t.aftM [j0, j1] x G).ok P o lp n0 R) : t.ok P o lp n0 R := by
  refine ok_callM hd hr [j0, j1] (by simp [hj]) (fits_two hb hc hx h0 h1) ha (fun k j hk => .inr fun ρ E w vs _ hv => ?_) hk
  rcases k with _ | _ | k
  · exact vrs_ptr hv p0
  · exact vrs_ptr hv p1
  · simp at hk
/-- the end of a call that wrote two blocks of cells of its caller's. -/
theorem ok_leafM2 {x y : AV} {c0 c1 : Nat} {g0 g1 : Option Nat} {cs0 cs1 ds0 ds1 : List AV} {s0 s1 : Option (Nat × Nat × (Nat → List AV))} (hd : t.hd = .leaf (.tuple [x, .gsl 0 0, .gsl 1 0])) (hb : look t.heap [0, 1] = [(some (.cells c0 g0 cs0), s0), (some (.cells c1 g1 cs1), s1)]) (hc : c0 ≠ c1)
    (hx : fitA [some 0, some 1] y x) (h0 : fitsA [some 0, some 1] ds0 cs0) (h1 : fitsA [some 0, some 1] ds1 cs1) (k0 : (NewB.cells g0 ds0).kept = true) (k1 : (NewB.cells g1 ds1).kept = true) (hR : R y [.cells g0 ds0, .cells g1 ds1]) : t.ok P o lp n0 (RM 2 R) := by
  refine ok_leaf (ns := [some 0, some 1]) (y := .tuple [y, .gsl 0 0, .gsl 1 0]) (G := [.cells g0 ds0, .cells g1 ds1]) hd (fits_two hb hc ?_ h0 h1) ⟨y, by simp [marksG, k0, k1], hR⟩
  refine ⟨?_, trivial⟩
  simp only [fitA]
  simp only [fitsA]
  exact ⟨hx, by simp [fitA], by simp [fitA], trivial⟩
end Go.Proofs.Ytkdmlpmjfnjnmaa.Sv
