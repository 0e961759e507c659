import Derived.Test.YtekianhbdaiacaaTrb
/-! ends and heads where one block is named. -/
namespace Go.Proofs.Ytekianhbdaiacaa.Sv
open Go Go.RowKit
set_option linter.unusedVariables false
set_option linter.unusedSimpArgs false
variable {P : Program} {o lp : Nat → Bool} {n0 : Nat} {R : AV → List NewB → Prop} {t : T}
theorem look_one {H : AH} {j : Nat} {b : Option Blk} {s : Option (Nat × Nat × (Nat → List AV))} (h : look H [j] = [(b, s)]) : H.tr.get j = b ∧ seqAt H j = s := by
  have e : look H [j] = [(H.tr.get j, seqAt H j)] := rfl
  rw [e] at h
  simpa using h
theorem look_hd {H : AH} {j : Nat} {l : List Nat} {b : Option Blk × Option (Nat × Nat × (Nat → List AV))} {r : List (Option Blk × Option (Nat × Nat × (Nat → List AV)))} (h : look H (j :: l) = b :: r) : look H [j] = [b] := by
  have e : look H (j :: l) = (H.tr.get j, seqAt H j) :: look H l := rfl
  rw [e] at h
  have e' : look H [j] = [(H.tr.get j, seqAt H j)] := rfl
  rw [e', (List.cons.inj h).1]
theorem look_tl {H : AH} {j : Nat} {l : List Nat} {b : Option Blk × Option (Nat × Nat × (Nat → List AV))} {r : List (Option Blk × Option (Nat × Nat × (Nat → List AV)))} (h : look H (j :: l) = b :: r) : look H l = r := by
  have e : look H (j :: l) = (H.tr.get j, seqAt H j) :: look H l := rfl
  rw [e] at h
  exact (List.cons.inj h).2
theorem fits_cells {H : AH} {j c : Nat} {gr : Option Nat} {cs ds : List AV} {as bs : List AV} {s : Option (Nat × Nat × (Nat → List AV))} (hb : look H [j] = [(some (.cells c gr cs), s)]) (hx : fitsA [some j] bs as) (hd : fitsA [some j] ds cs) : Fits [some j] as H bs [.cells gr ds] :=
  ⟨hx, ⟨⟨c, cs, (look_one hb).1, hd⟩, trivial⟩, by simp⟩
theorem fits_seq {H : AH} {j z n m : Nat} {b : Option Blk} {f f' : Nat → List AV} {as bs : List AV} (hb : look H [j] = [(b, some (z, m, f))]) (hx : fitsA [some j] bs as) (hn : n ≤ m) (hf : ∀ i, i < n → f' i = f i ∧ nfs (f' i) = true) : Fits [some j] as H bs [.seq z n f'] :=
  ⟨hx, ⟨.inl ⟨m, f, (look_one hb).2, hn, hf⟩, trivial⟩, by simp⟩
theorem fits_none {H : AH} {z : Nat} {f' : Nat → List AV} {as bs : List AV} (hx : fitsA [none] bs as) : Fits [none] as H bs [.seq z 0 f'] :=
  ⟨hx, ⟨rfl, trivial⟩, by simp⟩
/-- own cells, told as rows. -/
theorem fits_rows {H : AH} {j c z n : Nat} {cs : List AV} {f' : Nat → List AV} {s : Option (Nat × Nat × (Nat → List AV))} {xs bs : List AV} (hb : look H [j] = [(some (.cells c (some z) cs), s)]) (hx : fitsA [some j] bs xs) (hz : 0 < z) (hn : n * z ≤ cs.length) (hf : ∀ i, i < n → f' i = (cs.drop (i * z)).take z ∧ nfs (f' i) = true) : Fits [some j] xs H bs [.seq z n f'] :=
  ⟨hx, ⟨.inr ⟨c, cs, (look_one hb).1, hz, hn, hf⟩, trivial⟩, by simp⟩
/-- it ends with a block of cells. -/
theorem ok_leafC {x y : AV} {j c : Nat} {gr : Option Nat} {cs : List AV} {s : Option (Nat × Nat × (Nat → List AV))} (h : t.hd = .leaf x) (hb : look t.heap [j] = [(some (.cells c gr cs), s)]) (hx : fitA [some j] y x) (hn : nfs cs = true) (hR : R y [.cells gr cs]) : t.ok P o lp n0 R :=
  ok_leaf h (fits_cells hb ⟨hx, trivial⟩ (fitsA_self cs hn)) hR
/-- it ends with rows. -/
theorem ok_leafG {x y : AV} {j z n m : Nat} {b : Option Blk} {f f' : Nat → List AV} (h : t.hd = .leaf x) (hb : look t.heap [j] = [(b, some (z, m, f))]) (hx : fitA [some j] y x) (hn : n ≤ m) (hf : ∀ i, i < n → f' i = f i ∧ nfs (f' i) = true) (hR : R y [.seq z n f']) : t.ok P o lp n0 R :=
  ok_leaf h (fits_seq hb ⟨hx, trivial⟩ hn hf) hR
theorem hold_leftD0 {p : Prop} {d : Decidable p} {x : Sk} (hp : p) (h1 : x.holds P o lp n0 R t.left) : (Sk.left (@decide p d) x).holds P o lp n0 R t := ⟨@decide_eq_true p d hp, h1⟩
theorem hold_rightD0 {p : Prop} {d : Decidable p} {x : Sk} (hp : ¬ p) (h1 : x.holds P o lp n0 R t.right) : (Sk.right (@decide p d) x).holds P o lp n0 R t := ⟨@decide_eq_false p d hp, h1⟩
theorem hold_left0 {c : Bool} {x : Sk} (hp : c = true) (h1 : x.holds P o lp n0 R t.left) : (Sk.left c x).holds P o lp n0 R t := ⟨hp, h1⟩
theorem hold_right0 {c : Bool} {x : Sk} (hp : c = false) (h1 : x.holds P o lp n0 R t.right) : (Sk.right c x).holds P o lp n0 R t := ⟨hp, h1⟩
end Go.Proofs.Ytekianhbdaiacaa.Sv
