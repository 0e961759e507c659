import Derived.Test.YtkdmlpmjfnjnmaaN3
set_option linter.unusedSimpArgs false
namespace Go.Proofs.Ytkdmlpmjfnjnmaa
open Go Go.RowKit Sv
set_option linter.unusedVariables false
set_option maxRecDepth 100000
set_option maxHeartbeats 0
def netG (c : Nat → Bool) (R : Nat → NM) (k : Nat) : List NewB := [netC c 1 k, netR R k]
def netN (c : Nat → Bool) (R : Nat → NM) (k : Nat) : List NewB := [netC c 2 k, .cells none [], netR R k]
theorem leaf_same {P : Program} {o lp : Nat → Bool} {n0 : Nat} {t : T} {R' : AV → List NewB → Prop} {x x0 : AV} {c : Nat → Bool} {R : Nat → NM} {k c0 : Nat} {cs : List AV} (hd : t.hd = .leaf (.tuple [x0, .gsl 0 0, .gsl 1 0])) (hx : fitA [some 0, some 1] x x0)
    (h0 : t.heap.tr.get 0 = some (.cells c0 none (.gsl 1 k :: cs))) (hcs : fitsA [some 0, some 1] (cutC c) cs) (h1 : seqAt t.heap 1 = some (12, k, rowsN R)) (hc : c0 ≠ 1) (hR : R' x (netG c R k)) : t.ok P o lp n0 (RM 2 R') := by
  have e0 := clsOf_cells h0
  have e1 := (seq_one h1).1
  refine ok_leafZ (fz := []) (ns := [some 0, some 1]) (y := .tuple [x, .gsl 0 0, .gsl 1 0]) (G := netG c R k) hd ⟨zsA_of ⟨⟨hx, by simp [fitA], by simp [fitA], trivial⟩, trivial⟩, ⟨⟨_, _, h0, zsA_of ⟨by simp [fitA], hcs⟩⟩, .inl ⟨k, _, h1, Nat.le_refl _, fun i hi => Ices.refl rfl⟩, trivial⟩, ?_⟩ ⟨x, rfl, hR⟩
  simp [e0, e1, hc]
theorem leaf_new {P : Program} {o lp : Nat → Bool} {n0 : Nat} {t : T} {R' : AV → List NewB → Prop} {x x0 : AV} {c : Nat → Bool} {R : Nat → NM} {k k1 c0 J : Nat} {w : AV} {f : Nat → List AV} (hd : t.hd = .leaf (.tuple [x0, .gsl 0 0, .gsl 1 0])) (hx : fitA [some 0, none, some J] x x0)
    (h0 : t.heap.tr.get 0 = some (.cells c0 none (w :: cutC c))) (hw : fitA [some 0, none, some J] (.gsl 2 k) w) (hJ : seqAt t.heap J = some (12, k1, f)) (hn : k ≤ k1) (hf : ∀ i, i < k → rowsN R i = f i) (hc : c0 ≠ J) (hR : R' x (netN c R k)) : t.ok P o lp n0 (RM 2 R') := by
  have e0 := clsOf_cells h0
  have e1 := (seq_one hJ).1
  refine ok_leafZ (fz := []) (ns := [some 0, none, some J]) (y := .tuple [x, .gsl 0 0, .top]) (G := netN c R k) hd ⟨zsA_of ⟨⟨hx, by simp [fitA], by simp [fitA], trivial⟩, trivial⟩, ⟨⟨_, _, h0, zsA_of ⟨hw, fitsA_self _ rfl⟩⟩, trivial, .inl ⟨k1, _, hJ, hn, fun i hi => by rw [hf i hi]; exact hf i hi ▸ Ices.refl rfl⟩, trivial⟩, ?_⟩ ⟨x, rfl, hR⟩
  simp [e0, e1, hc]
theorem put_glue {R : Nat → NM} {k : Nat} {n : NM} {f : Nat → List AV} (hf : f 0 = n.row) : ∀ i, i < k + 1 → rowsN (putR R k n) i = glue k (rowsN R) f i := fun i hi => by
  unfold rowsN putR glue
  by_cases h : i < k
  · rw [if_pos h, if_pos h]
  · rw [if_neg h, if_neg h, show i - k = 0 by omega]; exact hf.symm
end Go.Proofs.Ytkdmlpmjfnjnmaa
