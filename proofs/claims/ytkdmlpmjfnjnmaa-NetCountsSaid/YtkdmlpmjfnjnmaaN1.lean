import Derived.Test.YtkdmlpmjfnjnmaaZ3
namespace Go.Proofs.Ytkdmlpmjfnjnmaa
open Go Go.RowKit Sv
set_option linter.unusedVariables false
set_option maxRecDepth 100000
set_option maxHeartbeats 0
/-- messages, each with its events. -/
structure NM where
  m : MsI
  q : Nat
  E : Nat → EvI
def NM.row (x : NM) : List AV := x.m.row (evs x.q x.E)
def rowsN (R : Nat → NM) (i : Nat) : List AV := (R i).row
def cutC (c : Nat → Bool) : List AV := [.sbool (c 0), .sbool (c 1), .sbool (c 2), .sbool (c 3), .sbool (c 4), .sbool (c 5), .sbool (c 6), .sbool (c 7), .sbool (c 8), .sbool (c 9), .sbool (c 10), .sbool (c 11), .sbool (c 12), .sbool (c 13), .sbool (c 14), .sbool (c 15), .sbool (c 16), .sbool (c 17), .sbool (c 18), .sbool (c 19), .sbool (c 20), .sbool (c 21), .sbool (c 22), .sbool (c 23), .sbool (c 24), .sbool (c 25), .sbool (c 26), .sbool (c 27), .sbool (c 28), .sbool (c 29), .sbool (c 30), .sbool (c 31), .sbool (c 32), .sbool (c 33), .sbool (c 34), .sbool (c 35)]
def netC (c : Nat → Bool) (j k : Nat) : NewB := .cells none (.gsl j k :: cutC c)
def netR (R : Nat → NM) (k : Nat) : NewB := .seq 12 k (rowsN R)
abbrev bS (j z n : Nat) (f : Nat → List AV) : Option Blk × Option (Nat × Nat × (Nat → List AV)) := (some (.seq j z n f), some (z, n, f))
abbrev bC (j a k : Nat) (c : Nat → Bool) : Option Blk × Option (Nat × Nat × (Nat → List AV)) := (some (.cells j none (.gsl a k :: cutC c)), none)
def at_ (i j : Int) : Nat := (6 * (i - 1) + (j - 1)).toNat
theorem at_c {c : Nat → Bool} {b : Bool} {i j : Int} {K : Nat} (h : c K = b) (e : at_ i j = K) : c (at_ i j) = b := e ▸ h
theorem clsOf_cells {H : AH} {j c : Nat} {g : Option Nat} {cs : List AV} (a : H.tr.get j = some (.cells c g cs)) : H.clsOf j = some c := by simp [AH.clsOf, a, Blk.cls]
theorem row_nfs (x : NM) : nfs x.row = true := rfl
/-- a row of one's own, behind its freeze. -/
theorem ice_row {H : AH} {fz : List Nat} (m : MsI) {d a : AV} (h : Ice H fz d a) : Ices H fz (m.row d) (m.row a) := by
  unfold MsI.row
  exact .cons _ _ _ _ (.flat _ rfl) (.cons _ _ _ _ (.flat _ rfl) (.cons _ _ _ _ (.flat _ rfl) (.cons _ _ _ _ (.flat _ rfl) (.cons _ _ _ _ (.flat _ rfl) (.cons _ _ _ _ (.flat _ rfl) (.cons _ _ _ _ (.flat _ rfl) (.cons _ _ _ _ (.flat _ rfl) (.cons _ _ _ _ (.flat _ rfl) (.cons _ _ _ _ h (.cons _ _ _ _ (.flat _ rfl) (.cons _ _ _ _ (.flat _ rfl) .nil)))))))))))
theorem ice_evs {H : AH} {fz : List Nat} {q m j : Nat} {E : Nat → EvI} {f : Nat → List AV} (hj : j ∈ fz) (hs : seqAt H j = some (14, m, f)) (hn : q ≤ m) (hr : ∀ i, i < q → f i = (E i).row) : Ice H fz (evs q E) (.gsl j q) :=
  .rows 14 q m j _ f hj hs hn fun i hi => by rw [hr i hi]; exact Ices.refl rfl
theorem views_own {H : AH} {m : MsI} {j q mm : Nat} {E : Nat → EvI} {f : Nat → List AV} (hs : seqAt H j = some (14, mm, f)) (hn : q ≤ mm) (hr : ∀ i, i < q → f i = (E i).row) : views H [.agg (m.row (.gsl j q))] [.agg (m.row (evs q E))] := by
  have hv : view H (.gsl j q) (evs q E) := by
    unfold evs view
    exact ⟨rfl, mm, f, hs, hn, fun i hi => ⟨(hr i hi).symm, rfl⟩⟩
  simp only [views, MsI.row]
  unfold view
  simp only [views]
  refine ⟨⟨?_, ?_, ?_, ?_, ?_, ?_, ?_, ?_, ?_, hv, ?_, ?_, trivial⟩, trivial⟩ <;> (unfold view; exact ⟨rfl, rfl⟩)
theorem zsA_self {H : AH} {fz : List Nat} {ns : List (Option Nat)} {l : List AV} (h : nfs l = true) : zsA H fz ns l l := zsA_of (fitsA_self l h)
/-- a message more. -/
def putR (R : Nat → NM) (k : Nat) (x : NM) (j : Nat) : NM := if j < k then R j else x
/-- a message less. -/
def delR (R : Nat → NM) (i j : Nat) : NM := if j < i then R j else R (j + 1)
theorem row_of {R : Nat → NM} {k i : Nat} {x : NM} {f : Nat → List AV} {H : AH} {fz : List Nat} (hi : i < k + 1) (hx : Ices H fz x.row (f 0)) : Ices H fz (rowsN (putR R k x) i) (glue k (rowsN R) f i) := by
  unfold rowsN putR glue
  by_cases h : i < k
  · rw [if_pos h, if_pos h]; exact Ices.refl (row_nfs _)
  · rw [if_neg h, if_neg h, show i - k = 0 by omega]; exact hx
theorem look_cons {H : AH} {j : Nat} {l : List Nat} {b : Option Blk} {s : Option (Nat × Nat × (Nat → List AV))} {r : List (Option Blk × Option (Nat × Nat × (Nat → List AV)))} (h : Sv.look H (j :: l) = (b, s) :: r) : H.tr.get j = b ∧ seqAt H j = s ∧ Sv.look H l = r :=
  ⟨(look_one (look_hd h)).1, (look_one (look_hd h)).2, look_tl h⟩
/-- a net's two blocks, as they are. -/
theorem zB_net {H : AH} {fz : List Nat} {ns : List (Option Nat)} {c : Nat → Bool} {j a k' k c0 : Nat} {cs : List AV} (h : H.tr.get j = some (.cells c0 none (.gsl a k' :: cs))) (hcs : cs = cutC c) {b : Nat} (hn : fitA ns (.gsl b k) (.gsl a k')) : zB H fz ns (some j) (netC c b k) := by
  subst hcs
  refine ⟨c0, _, h, ?_⟩
  unfold zsA
  exact ⟨zA_of hn, zsA_self rfl⟩
theorem pair_ok {l : List (Option Nat)} (h : l.Nodup) : l.Pairwise fun a b => a = none ∨ a ≠ b := h.imp fun h => .inr h
end Go.Proofs.Ytkdmlpmjfnjnmaa
