import Derived.Test.YtkdmlpmjfnjnmaaTra
/-! a tree and its skeleton: what was looked at, in one piece. -/
namespace Go.Proofs.Ytkdmlpmjfnjnmaa.Sv
open Go Go.RowKit
set_option linter.unusedVariables false
set_option linter.unusedSimpArgs false
noncomputable section
/-- which ways are gone: both, one (the other is cut off), or it stops here (the blocks ns are shown). -/
inductive Pt where
  | both (l r : Pt)
  | l (p : Pt)
  | r (p : Pt)
  | stop (ns : List Nat)
inductive Sk where
  | fork (c : Bool) (x y : Sk)
  | left (c : Bool) (x : Sk)
  | right (c : Bool) (y : Sk)
  | conj (x y : Sk)
  | stop (h : Hd) (ns : List Nat) (bs : List (Option Blk × Option (Nat × Nat × (Nat → List AV))))
  | bad
def look (H : AH) (ns : List Nat) : List (Option Blk × Option (Nat × Nat × (Nat → List AV))) := @List.rec Nat (fun _ => List (Option Blk × Option (Nat × Nat × (Nat → List AV)))) [] (fun j _ r => (H.tr.get j, seqAt H j) :: r) ns
def T.sk (p : Pt) : T → Sk := @Pt.rec (fun _ => T → Sk)
  (fun _ _ il ir t => match t with | .fork c x y => .fork c (il x) (ir y) | .both x y => .conj (il x) (ir y) | _ => .bad)
  (fun _ i t => match t with | .fork c x _ => .left c (i x) | _ => .bad)
  (fun _ i t => match t with | .fork c _ y => .right c (i y) | _ => .bad)
  (fun ns t => .stop t.hd ns (look t.heap ns)) p
variable {P : Program} {o lp : Nat → Bool} {n0 : Nat} {R : AV → List NewB → Prop} {t : T}
/-- what is to be shown of a skeleton. -/
def Sk.holds (P : Program) (o lp : Nat → Bool) (n0 : Nat) (R : AV → List NewB → Prop) : Sk → T → Prop
  | .fork c x y, t => (c = true → x.holds P o lp n0 R t.left) ∧ (c = false → y.holds P o lp n0 R t.right)
  | .left c x, t => c = true ∧ x.holds P o lp n0 R t.left
  | .right c y, t => c = false ∧ y.holds P o lp n0 R t.right
  | .conj x y, t => x.holds P o lp n0 R t.left ∧ y.holds P o lp n0 R t.right
  | .stop h ns bs, t => t.hd = h → look t.heap ns = bs → t.ok P o lp n0 R
  | .bad, _ => False
theorem hold_forkD {p : Prop} {d : Decidable p} {x y : Sk} (h1 : p → x.holds P o lp n0 R t.left) (h2 : ¬ p → y.holds P o lp n0 R t.right) : (Sk.fork (@decide p d) x y).holds P o lp n0 R t :=
  ⟨fun h => h1 (@of_decide_eq_true p d h), fun h => h2 (@of_decide_eq_false p d h)⟩
theorem hold_leftD {p : Prop} {d : Decidable p} {x : Sk} (hp : p) (h1 : p → x.holds P o lp n0 R t.left) : (Sk.left (@decide p d) x).holds P o lp n0 R t :=
  ⟨@decide_eq_true p d hp, h1 hp⟩
theorem hold_rightD {p : Prop} {d : Decidable p} {x : Sk} (hp : ¬ p) (h1 : ¬ p → x.holds P o lp n0 R t.right) : (Sk.right (@decide p d) x).holds P o lp n0 R t :=
  ⟨@decide_eq_false p d hp, h1 hp⟩
theorem hold_fork {c : Bool} {x y : Sk} (h1 : c = true → x.holds P o lp n0 R t.left) (h2 : c = false → y.holds P o lp n0 R t.right) : (Sk.fork c x y).holds P o lp n0 R t := ⟨h1, h2⟩
theorem hold_left {c : Bool} {x : Sk} (hp : c = true) (h1 : c = true → x.holds P o lp n0 R t.left) : (Sk.left c x).holds P o lp n0 R t := ⟨hp, h1 hp⟩
theorem hold_right {c : Bool} {x : Sk} (hp : c = false) (h1 : c = false → x.holds P o lp n0 R t.right) : (Sk.right c x).holds P o lp n0 R t := ⟨hp, h1 hp⟩
theorem hold_conj {x y : Sk} (h1 : x.holds P o lp n0 R t.left) (h2 : y.holds P o lp n0 R t.right) : (Sk.conj x y).holds P o lp n0 R t := ⟨h1, h2⟩
theorem hold_stop {h : Hd} {ns : List Nat} {bs : List (Option Blk × Option (Nat × Nat × (Nat → List AV)))} (k : t.hd = h → look t.heap ns = bs → t.ok P o lp n0 R) : (Sk.stop h ns bs).holds P o lp n0 R t := k
theorem ok_sk : ∀ (p : Pt) {t : T} {S : Sk}, t.sk p = S → S.holds P o lp n0 R t → t.ok P o lp n0 R
  | .both l r, t, S, h, hS => by
    subst h
    cases t with
    | fork c x y => exact ok_fork (c := c) rfl (fun h => ok_sk l rfl (hS.1 h)) (fun h => ok_sk r rfl (hS.2 h))
    | both x y => exact ok_both rfl (ok_sk l rfl hS.1) (ok_sk r rfl hS.2)
    | _ => exact hS.elim
  | .l p, t, S, h, hS => by
    subst h
    cases t with
    | fork c x y => exact ok_fork (c := c) rfl (fun h => ok_sk p rfl hS.2) (fun h => by rw [hS.1] at h; cases h)
    | _ => exact hS.elim
  | .r p, t, S, h, hS => by
    subst h
    cases t with
    | fork c x y => exact ok_fork (c := c) rfl (fun h => by rw [hS.1] at h; cases h) (fun h => ok_sk p rfl hS.2)
    | _ => exact hS.elim
  | .stop ns, t, S, h, hS => by
    subst h
    exact hS rfl rfl
mutual
theorem view_self {H : AH} : ∀ (a : AV), nf a = true → view H a a
  | .agg l, h => by
    unfold view
    exact views_self l (by simpa [nf] using h)
  | .tuple l, h => by
    unfold view
    exact views_self l (by simpa [nf] using h)
  | .bool _, h => by simp [view, nf]
  | .int _ _, h => by simp [view, nf]
  | .sint _ _, h => by simp [view, nf]
  | .str _, h => by simp [view, nf]
  | .nilPtr, h => by simp [view, nf]
  | .nilSlice, h => by simp [view, nf]
  | .nilMap, h => by simp [view, nf]
  | .nilFn, h => by simp [view, nf]
  | .data _ _ _, h => by simp [view, nf]
  | .dptr _, h => by simp [view, nf]
  | .fn f a b, h => by
    unfold view
    exact ⟨rfl, h⟩
  | .ptr _ _, h => by simp [nf] at h
  | .slice _ _ _ _ _, h => by simp [nf] at h
  | .empty, h => by simp [nf] at h
  | .map _, h => by simp [nf] at h
  | .yield _, h => by simp [nf] at h
  | .atom _, h => by simp [nf] at h
  | .any, h => by simp [nf] at h
  | .anySlice, h => by simp [nf] at h
  | .unkI _, h => by simp [nf] at h
  | .unkB, h => by simp [nf] at h
  | .sbool _, h => by simp [view, nf]
  | .half _, h => by simp [nf] at h
  | .top, h => by simp [nf] at h
  | .gsl _ _, h => by simp [nf] at h
  | .gptr _ _ _, h => by simp [nf] at h
theorem views_self {H : AH} : ∀ (l : List AV), nfs l = true → views H l l
  | [], h => by simp [views]
  | a :: l, h => by
    unfold views
    simp only [nfs, Bool.and_eq_true] at h
    exact ⟨view_self a h.1, views_self l h.2⟩
end
/-- a call whose arguments name no memory. -/
theorem ok_call0 {f : Nat} {args : List AV} {R' : AV → List NewB → Prop} (h : t.hd = .call f args) (hr : Runs P f args R') (hn : nfs args = true) (hk : ∀ x G, R' x G → df x = true ∧ (∀ g ∈ G, GDF g) ∧ (t.aft x G).ok P o lp n0 R) : t.ok P o lp n0 R :=
  ok_call h hr (views_self args hn) hk
end
end Go.Proofs.Ytkdmlpmjfnjnmaa.Sv
