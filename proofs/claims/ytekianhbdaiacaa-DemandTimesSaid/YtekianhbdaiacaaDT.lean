import Derived.Test.YtekianhbdaiacaaPrl
import Derived.Test.YtekianhbdaiacaaTrc
namespace Go.Proofs.Ytekianhbdaiacaa
open Go Go.RowKit Sv
set_option linter.unusedVariables false
set_option maxRecDepth 100000
set_option maxHeartbeats 0
theorem works : Runs Try.prog 15 [] fun x G => x = .bool true ∧ G = [] := by
  refine runs_treeF plain mixed (fun _ => false) (fun _ => false) 1000 ?_
  refine ok_sk (.both (.stop []) (.both (.both (.both (.stop []) (.both (.both (.both (.stop []) (.both (.both (.both (.stop []) (.both (.both (.both (.stop []) (.both (.both (.stop []) (.stop [])) (.stop []))) (.stop [])) (.stop []))) (.stop [])) (.stop []))) (.stop [])) (.stop []))) (.stop [])) (.stop []))) (S := .conj (.stop (Hd.tt) [] ([])) (.conj (.conj (.conj (.stop (Hd.tt) [] ([])) (.conj (.conj (.conj (.stop (Hd.tt) [] ([])) (.conj (.conj (.conj (.stop (Hd.tt) [] ([])) (.conj (.conj (.conj (.stop (Hd.tt) [] ([])) (.conj (.conj (.stop (Hd.leaf (AV.bool Bool.true)) [] ([])) (.stop (Hd.tt) [] ([]))) (.stop (Hd.tt) [] ([])))) (.stop (Hd.tt) [] ([]))) (.stop (Hd.tt) [] ([])))) (.stop (Hd.tt) [] ([]))) (.stop (Hd.tt) [] ([])))) (.stop (Hd.tt) [] ([]))) (.stop (Hd.tt) [] ([])))) (.stop (Hd.tt) [] ([]))) (.stop (Hd.tt) [] ([])))) (by kernel_rfl) ?_
  refine hold_conj ?_ ?_
  ·
   refine hold_stop (fun hd hb => ?_)
   exact ok_tt hd
  refine hold_conj ?_ ?_
  ·
   refine hold_conj ?_ ?_
   ·
    refine hold_conj ?_ ?_
    ·
     refine hold_stop (fun hd hb => ?_)
     exact ok_tt hd
    refine hold_conj ?_ ?_
    ·
     refine hold_conj ?_ ?_
     ·
      refine hold_conj ?_ ?_
      ·
       refine hold_stop (fun hd hb => ?_)
       exact ok_tt hd
      refine hold_conj ?_ ?_
      ·
       refine hold_conj ?_ ?_
       ·
        refine hold_conj ?_ ?_
        ·
         refine hold_stop (fun hd hb => ?_)
         exact ok_tt hd
        refine hold_conj ?_ ?_
        ·
         refine hold_conj ?_ ?_
         ·
          refine hold_conj ?_ ?_
          ·
           refine hold_stop (fun hd hb => ?_)
           exact ok_tt hd
          refine hold_conj ?_ ?_
          ·
           refine hold_conj ?_ ?_
           ·
            refine hold_stop (fun hd hb => ?_)
            exact ok_leaf0 hd rfl ⟨rfl, rfl⟩
           refine hold_stop (fun hd hb => ?_)
           exact ok_tt hd
          refine hold_stop (fun hd hb => ?_)
          exact ok_tt hd
         refine hold_stop (fun hd hb => ?_)
         exact ok_tt hd
        refine hold_stop (fun hd hb => ?_)
        exact ok_tt hd
       refine hold_stop (fun hd hb => ?_)
       exact ok_tt hd
      refine hold_stop (fun hd hb => ?_)
      exact ok_tt hd
     refine hold_stop (fun hd hb => ?_)
     exact ok_tt hd
    refine hold_stop (fun hd hb => ?_)
    exact ok_tt hd
   refine hold_stop (fun hd hb => ?_)
   exact ok_tt hd
  refine hold_stop (fun hd hb => ?_)
  exact ok_tt hd
theorem fits_ce {H : AH} {j0 j1 c0 c1 ck : Nat} {g0 : Option Nat} {cs0 ds0 xs bs : List AV} {es es' : List Ent}
    (a0 : H.tr.get j0 = some (.cells c0 g0 cs0)) (a1 : H.tr.get j1 = some (.map c1 es ck)) (hc : c0 ≠ c1) (hx : fitsA [some j0, some j1] bs xs) (h0 : fitsA [some j0, some j1] ds0 cs0) (hn : nfE es' = true) (h1 : fitsE [some j0, some j1] es' es) : Fits [some j0, some j1] xs H bs [.cells g0 ds0, .ents es' ck] := by
  refine ⟨hx, ⟨⟨_, _, a0, h0⟩, ⟨hn, _, _, a1, h1⟩, trivial⟩, ?_⟩
  simp [AH.clsOf, a0, a1, Blk.cls, hc]
theorem look_fst {H : AH} {j : Nat} {l : List Nat} {b : Option Blk} {s : Option (Nat × Nat × (Nat → List AV))} {r : List (Option Blk × Option (Nat × Nat × (Nat → List AV)))} (h : Sv.look H (j :: l) = (b, s) :: r) : H.tr.get j = b := (look_one (look_hd h)).1
theorem fit_n {ns : List (Option Nat)} {k : IntKind} {x : Int} : fitA ns (.sint k x) (.sint k x) := by simp [fitA]
theorem fit_i {ns : List (Option Nat)} {k : IntKind} {x : Int} : fitA ns (.sint k x) (.int k x) := by simp [fitA]
structure SF (a o r : Int) where
  i : Int
  f : Int
  g : Int
  w : Int
  nx : Int
  k : 0 ≤ i ∧ i ≤ r ∧ i ≤ o ∧ 0 ≤ f ∧ f ≤ a + i ∧ 0 ≤ g ∧ g ≤ 16 ∧ 1 ≤ w ∧ w ≤ 16 ∧ f + g = nx ∧ a + i ≤ nx
structure ST (a o r : Int) where
  i : Int
  f : Int
  g : Int
  w : Int
  nx : Int
  f3 : Int
  g3 : Int
  w3 : Int
  k : 0 ≤ i ∧ i ≤ r ∧ o < i ∧ 0 ≤ f ∧ f ≤ a + i ∧ 0 ≤ g ∧ g ≤ 16 ∧ 1 ≤ w ∧ w ≤ 16 ∧ f + g = nx ∧ a + i ≤ nx ∧ 0 ≤ f3 ∧ f3 ≤ a + i ∧ 0 ≤ g3 ∧ g3 ≤ 16 ∧ 1 ≤ w3 ∧ w3 ≤ 16
def dtS (a o r nx w i : Int) : List AV := [.sint .u64 a, .sint .u8 o, .sint .u8 r, .top, .top, .top, .top, .ptr 0 0, .sint .u64 nx, .sint .u64 w, .sint .u64 i, .top, .top, .top, .top, .top, .top, .top, .top, .top, .top, .top, .top, .top, .top, .top, .top, .top, .top, .top, .top, .top, .top, .top, .top, .top, .top, .top, .top, .top, .top, .top, .top, .top, .top, .top, .top, .top, .top, .top, .top, .top, .top, .top, .top, .top, .top, .top, .top, .top, .top, .top, .top, .top, .top, .top, .top, .top, .top, .top, .top, .top, .top, .top, .top, .top]
def ent (key amount : Int) (born : Nat) (f g w : AV) : Ent := { key := .int .u64 key, val := .agg [.int .i64 amount, f, g, w], born := born }
def dtT {a o r : Int} : SF a o r ⊕ ST a o r → List AV
  | .inl s => dtS a o r s.nx s.w s.i
  | .inr s => dtS a o r s.nx s.w s.i
def dtG {a o r : Int} : SF a o r ⊕ ST a o r → List NewB
  | .inl s => [.cells none [.map 1], .ents [ent 7 5 0 (.sint .u64 s.f) (.sint .u64 s.g) (.sint .u64 s.w)] 1]
  | .inr s => [.cells none [.map 1], .ents [ent 7 5 0 (.sint .u64 s.f) (.sint .u64 s.g) (.sint .u64 s.w), ent 3 1 1 (.sint .u64 s.f3) (.sint .u64 s.g3) (.sint .u64 s.w3)] 2]
def dtM {a o r : Int} : SF a o r ⊕ ST a o r → Nat
  | .inl s => (r - s.i).toNat
  | .inr s => (r - s.i).toNat
theorem fit_ent {ns : List (Option Nat)} {key amount : Int} {born : Nat} {f g w F G W : AV} (hf : fitA ns f F) (hg : fitA ns g G) (hw : fitA ns w W) : fitA ns (ent key amount born f g w).key (ent key amount born F G W).key ∧ fitA ns (ent key amount born f g w).val (ent key amount born F G W).val := by
  refine ⟨by simp [ent, fitA, nf], ?_⟩
  show fitA ns (.agg [_, _, _, _]) (.agg [_, _, _, _])
  simp only [fitA]
  simp only [fitsA]
  exact ⟨by simp [fitA, nf], hf, hg, hw, trivial⟩
theorem fitsF {a o r : Int} {H : AH} {j0 j1 c0 c1 : Nat} {xs : List AV} {F G W : AV} {i f g w nx : Int} (k : 0 ≤ i ∧ i ≤ r ∧ i ≤ o ∧ 0 ≤ f ∧ f ≤ a + i ∧ 0 ≤ g ∧ g ≤ 16 ∧ 1 ≤ w ∧ w ≤ 16 ∧ f + g = nx ∧ a + i ≤ nx)
    (a0 : H.tr.get j0 = some (.cells c0 none [.map j1])) (a1 : H.tr.get j1 = some (.map c1 [ent 7 5 0 F G W] 1)) (hc : c0 ≠ c1) (hf : fitA [some j0, some j1] (.sint .u64 f) F) (hg : fitA [some j0, some j1] (.sint .u64 g) G) (hw : fitA [some j0, some j1] (.sint .u64 w) W)
    (hx : fitsA [some j0, some j1] (dtS a o r nx w i) xs) : Fits [some j0, some j1] xs H (dtT (.inl (⟨i, f, g, w, nx, k⟩ : SF a o r))) (dtG (.inl (⟨i, f, g, w, nx, k⟩ : SF a o r))) :=
  fits_ce a0 a1 hc hx (by simp [fitsA, fitA]) rfl (by simp only [fitsE]; exact ⟨rfl, (fit_ent hf hg hw).1, (fit_ent hf hg hw).2, trivial⟩)
theorem fitsT {a o r : Int} {H : AH} {j0 j1 c0 c1 : Nat} {xs : List AV} {F G W F3 G3 W3 : AV} {i f g w nx f3 g3 w3 : Int} (k : 0 ≤ i ∧ i ≤ r ∧ o < i ∧ 0 ≤ f ∧ f ≤ a + i ∧ 0 ≤ g ∧ g ≤ 16 ∧ 1 ≤ w ∧ w ≤ 16 ∧ f + g = nx ∧ a + i ≤ nx ∧ 0 ≤ f3 ∧ f3 ≤ a + i ∧ 0 ≤ g3 ∧ g3 ≤ 16 ∧ 1 ≤ w3 ∧ w3 ≤ 16)
    (a0 : H.tr.get j0 = some (.cells c0 none [.map j1])) (a1 : H.tr.get j1 = some (.map c1 [ent 7 5 0 F G W, ent 3 1 1 F3 G3 W3] 2)) (hc : c0 ≠ c1) (hf : fitA [some j0, some j1] (.sint .u64 f) F) (hg : fitA [some j0, some j1] (.sint .u64 g) G) (hw : fitA [some j0, some j1] (.sint .u64 w) W)
    (hf3 : fitA [some j0, some j1] (.sint .u64 f3) F3) (hg3 : fitA [some j0, some j1] (.sint .u64 g3) G3) (hw3 : fitA [some j0, some j1] (.sint .u64 w3) W3)
    (hx : fitsA [some j0, some j1] (dtS a o r nx w i) xs) : Fits [some j0, some j1] xs H (dtT (.inr (⟨i, f, g, w, nx, f3, g3, w3, k⟩ : ST a o r))) (dtG (.inr (⟨i, f, g, w, nx, f3, g3, w3, k⟩ : ST a o r))) :=
  fits_ce a0 a1 hc hx (by simp [fitsA, fitA]) rfl (by simp only [fitsE]; exact ⟨rfl, (fit_ent hf hg hw).1, (fit_ent hf hg hw).2, rfl, (fit_ent hf3 hg3 hw3).1, (fit_ent hf3 hg3 hw3).2, trivial⟩)
theorem law (a : Int) (ha : IntKind.u64.min ≤ a ∧ a ≤ IntKind.u64.max) (o : Int) (ho : IntKind.u8.min ≤ o ∧ o ≤ IntKind.u8.max) (r : Int) (hr : IntKind.u8.min ≤ r ∧ r ≤ IntKind.u8.max) :
    Runs Try.prog 4 [.sint .u64 a, .sint .u8 o, .sint .u8 r] fun x G => x = .bool true ∧ G = [] := by
  have ha1 : 0 ≤ a := ha.1
  have ha2 : a ≤ 18446744073709551615 := ha.2
  have ho1 : 0 ≤ o := ho.1
  have ho2 : o ≤ 255 := ho.2
  have hr1 : 0 ≤ r := hr.1
  have hr2 : r ≤ 255 := hr.2
  refine runs_treeF plain mixed (fun g => Nat.beq g 15) (fun r => Nat.beq r 9) 60 ?_
  refine ok_sk (.both (.stop []) (.r (.stop [1, 0]))) (S := .fork (decide ((1152921504606846976 : Int) < a)) (.stop (Hd.call (15 : Nat) []) [] ([])) (.right (decide ((4611686018427387904 : Int) < a)) (.stop (Hd.loop (50 : Nat) [AV.sint IntKind.u64 a, AV.sint IntKind.u8 o, AV.sint IntKind.u8 r, AV.tuple [], AV.tuple [], AV.tuple [], AV.bool Bool.false, AV.ptr (1 : Nat) (0 : Nat), AV.sint IntKind.u64 a, AV.int IntKind.u64 (1 : Int), AV.int IntKind.u64 (0 : Int), AV.tuple [], AV.tuple [], AV.tuple [], AV.sint IntKind.u64 a, AV.bool Bool.false, AV.tuple [], AV.ptr (1 : Nat) (0 : Nat), AV.ptr (1 : Nat) (0 : Nat), AV.sint IntKind.u64 a, AV.int IntKind.i64 (0 : Int), AV.bool Bool.false, AV.sint IntKind.u64 a, AV.tuple [], AV.tuple [], AV.tuple [], AV.tuple [], AV.tuple [], AV.tuple [], AV.tuple [], AV.tuple [], AV.tuple [], AV.tuple [], AV.tuple [], AV.tuple [], AV.tuple [], AV.tuple [], AV.tuple [], AV.tuple [], AV.tuple [], AV.tuple [], AV.tuple [], AV.tuple [], AV.tuple [], AV.tuple [], AV.tuple [], AV.tuple [], AV.tuple [], AV.tuple [], AV.tuple [], AV.tuple [], AV.tuple [], AV.tuple [], AV.tuple [], AV.tuple [], AV.tuple [], AV.tuple [], AV.tuple [], AV.tuple [], AV.tuple [], AV.tuple [], AV.tuple [], AV.tuple [], AV.tuple [], AV.tuple [], AV.tuple [], AV.tuple [], AV.tuple [], AV.tuple [], AV.tuple [], AV.tuple [], AV.tuple [], AV.tuple [], AV.tuple [], AV.tuple [], AV.tuple []]) [1, 0] ([(Option.some (Blk.cells (1 : Nat) Option.none [AV.map (0 : Nat)]), Option.none), (Option.some (Blk.map (0 : Nat) [{ key := AV.int IntKind.u64 (7 : Int), val := AV.agg [AV.int IntKind.i64 (5 : Int), AV.sint IntKind.u64 a, AV.int IntKind.u64 (0 : Int), AV.int IntKind.u64 (1 : Int)], born := (0 : Nat) }] (1 : Nat)), Option.none)])))) (by kernel_rfl) ?_
  refine hold_forkD (fun h0 => ?_) (fun h0 => ?_)
  ·
   refine hold_stop (fun hd hb => ?_)
   refine ok_call0 hd works rfl ?_
   rintro x G ⟨rfl, rfl⟩
   refine ⟨rfl, fun g hg => (by cases hg), ?_⟩
   refine ok_sk (.stop []) (S := .stop (Hd.leaf (AV.bool Bool.true)) [] ([])) (by kernel_rfl) ?_
   refine hold_stop (fun hd hb => ?_)
   exact ok_leaf0 hd rfl ⟨rfl, rfl⟩
  refine hold_rightD0 (fun h1 => by omega) ?_
  refine hold_stop (fun hd hb => ?_)
  refine ok_loop hd (X := SF a o r ⊕ ST a o r) dtT dtG dtM [some 1, some 0] (.inl ⟨0, a, 0, 1, a, by omega⟩) (fitsF _ (look_fst hb) (look_fst (look_tl hb)) (by decide) fit_n fit_i fit_i (by simp [dtS, fitsA, fitA])) ?_
  rintro (⟨i, f, g, w, nx, k⟩ | ⟨i, f, g, w, nx, f3, g3, w3, k⟩)
  ·
   refine ok_sk (.l (.both (.l (.both (.l (.r (.l (.both (.stop []) (.both (.l (.l (.both (.both (.stop []) (.both (.l (.l (.l (.both (.l (.l (.l (.l (.l (.both (.l (.l (.l (.l (.l (.l (.stop [0, 12, 1]))))))) (.l (.l (.l (.l (.r (.l (.stop [0, 12, 1]))))))))))))) (.stop []))))) (.stop []))) (.both (.stop []) (.both (.l (.l (.l (.both (.l (.l (.r (.l (.stop [0, 10, 1]))))) (.stop []))))) (.stop [])))))) (.both (.l (.l (.l (.both (.stop []) (.both (.l (.l (.both (.both (.l (.l (.l (.l (.l (.both (.l (.l (.l (.l (.l (.l (.stop [0, 12, 1]))))))) (.l (.l (.l (.l (.r (.l (.stop [0, 12, 1]))))))))))))) (.stop [])) (.both (.l (.l (.r (.l (.stop [0, 8, 1]))))) (.stop []))))) (.stop [])))))) (.stop []))))))) (.l (.both (.stop []) (.both (.l (.l (.both (.both (.l (.l (.l (.l (.both (.l (.l (.l (.l (.l (.l (.stop [0, 7, 1]))))))) (.l (.l (.l (.l (.r (.l (.stop [0, 7, 1])))))))))))) (.stop [])) (.both (.l (.r (.l (.stop [0, 1])))) (.stop []))))) (.stop [])))))) (.stop []))) (S := .left (decide ((0 : Int) ≤ r ∧ r ≤ (18446744073709551615 : Int))) (.fork (decide (i < r)) (.left (decide ((0 : Int) ≤ o ∧ o ≤ (18446744073709551615 : Int))) (.fork (decide (i = o)) (.left (decide ((0 : Int) ≤ a + i ∧ a + i ≤ (18446744073709551615 : Int))) (.right (decide ((4611686018427387904 : Int) < a + i)) (.left (decide ((0 : Int) ≤ a + i ∧ a + i ≤ (18446744073709551615 : Int))) (.conj (.stop (Hd.tt) [] ([])) (.conj (.left (decide (f ≤ a + i)) (.left (decide ((0 : Int) ≤ a + i - f ∧ a + i - f ≤ (18446744073709551615 : Int))) (.fork (decide (g ≤ a + i - f)) (.conj (.stop (Hd.tt) [] ([])) (.conj (.left (decide (a + i ≤ a + i)) (.left (decide ((0 : Int) ≤ a + i - (a + i) ∧ a + i - (a + i) ≤ (18446744073709551615 : Int))) (.left (decide ((0 : Int) ≤ a + i - (a + i))) (.conj (.left (decide (a + i = a + i)) (.left (decide (f = f)) (.left (decide (g = g)) (.left (decide (w = w)) (.left (decide ((0 : Int) ≤ (2 : Int) * w ∧ (2 : Int) * w ≤ (18446744073709551615 : Int))) (.fork (decide ((16 : Int) < (2 : Int) * w)) (.left (decide ((0 : Int) ≤ a + i ∧ a + i ≤ (18446744073709551615 : Int))) (.left (decide (a + i = nx)) (.left (decide ((0 : Int) ≤ nx + w ∧ nx + w ≤ (18446744073709551615 : Int))) (.left (decide ((0 : Int) ≤ (2 : Int) * w ∧ (2 : Int) * w ≤ (18446744073709551615 : Int))) (.left (decide ((16 : Int) < (2 : Int) * w)) (.left (decide ((0 : Int) ≤ i + (1 : Int) ∧ i + (1 : Int) ≤ (18446744073709551615 : Int))) (.stop (Hd.again (again' dtT dtG dtM (Sum.inl { i := i, f := f, g := g, w := w, nx := nx, k := k })) [AV.sint IntKind.u64 a, AV.sint IntKind.u8 o, AV.sint IntKind.u8 r, AV.top, AV.top, AV.top, AV.top, AV.ptr (0 : Nat) (0 : Nat), AV.sint IntKind.u64 (nx + w), AV.sint IntKind.u64 (16 : Int), AV.sint IntKind.u64 (i + (1 : Int)), AV.slice (12 : Nat) (0 : Nat) (2 : Nat) (2 : Nat) Bool.false, AV.bool Bool.true, AV.int IntKind.i64 (2 : Int), AV.top, AV.top, AV.top, AV.top, AV.top, AV.top, AV.top, AV.top, AV.top, AV.sint IntKind.u64 i, AV.sint IntKind.u8 r, AV.sint IntKind.u64 r, AV.bool Bool.true, AV.sint IntKind.u64 i, AV.sint IntKind.u64 (i + (1 : Int)), AV.sint IntKind.u64 i, AV.sint IntKind.u8 o, AV.sint IntKind.u64 o, AV.bool Bool.true, AV.bool Bool.true, AV.ptr (0 : Nat) (0 : Nat), AV.sint IntKind.u64 a, AV.sint IntKind.u64 i, AV.sint IntKind.u64 (a + i), AV.int IntKind.i64 (0 : Int), AV.bool Bool.false, AV.bool Bool.false, AV.ptr (0 : Nat) (0 : Nat), AV.sint IntKind.u64 a, AV.sint IntKind.u64 i, AV.sint IntKind.u64 (a + i), AV.slice (12 : Nat) (0 : Nat) (2 : Nat) (2 : Nat) Bool.false, AV.int IntKind.i64 (2 : Int), AV.slice (12 : Nat) (0 : Nat) (2 : Nat) (2 : Nat) Bool.false, AV.int IntKind.i64 (2 : Int), AV.bool Bool.false, AV.int IntKind.i64 (1 : Int), AV.int IntKind.i64 (2 : Int), AV.bool Bool.false, AV.bool Bool.false, AV.slice (12 : Nat) (0 : Nat) (2 : Nat) (2 : Nat) Bool.false, AV.int IntKind.i64 (1 : Int), AV.ptr (12 : Nat) (2 : Nat), AV.agg [AV.int IntKind.u64 (7 : Int), AV.int IntKind.i64 (5 : Int)], AV.agg [AV.int IntKind.u64 (7 : Int), AV.int IntKind.i64 (5 : Int)], AV.bool Bool.true, AV.bool Bool.true, AV.bool Bool.true, AV.sint IntKind.u64 a, AV.sint IntKind.u64 i, AV.sint IntKind.u64 (a + i), AV.sint IntKind.u64 nx, AV.bool Bool.true, AV.bool Bool.false, AV.bool Bool.true, AV.sint IntKind.u64 nx, AV.sint IntKind.u64 w, AV.sint IntKind.u64 (nx + w), AV.sint IntKind.u64 w, AV.sint IntKind.u64 ((2 : Int) * w), AV.sint IntKind.u64 (16 : Int), AV.top]) [0, 12, 1] ([(Option.some (Blk.cells (0 : Nat) Option.none [AV.map (1 : Nat)]), Option.none), (Option.some (Blk.cells (8 : Nat) (Option.some (2 : Nat)) [AV.int IntKind.u64 (3 : Int), AV.int IntKind.i64 (1 : Int), AV.int IntKind.u64 (7 : Int), AV.int IntKind.i64 (5 : Int)]), Option.none), (Option.some (Blk.map (1 : Nat) [{ key := AV.int IntKind.u64 (7 : Int), val := AV.agg [AV.int IntKind.i64 (5 : Int), AV.sint IntKind.u64 (a + i), AV.sint IntKind.u64 w, AV.sint IntKind.u64 (16 : Int)], born := (0 : Nat) }, { key := AV.int IntKind.u64 (3 : Int), val := AV.agg [AV.int IntKind.i64 (1 : Int), AV.sint IntKind.u64 (a + i), AV.int IntKind.u64 (1 : Int), AV.int IntKind.u64 (2 : Int)], born := (1 : Nat) }] (2 : Nat)), Option.none)])))))))) (.left (decide ((0 : Int) ≤ a + i ∧ a + i ≤ (18446744073709551615 : Int))) (.left (decide (a + i = nx)) (.left (decide ((0 : Int) ≤ nx + w ∧ nx + w ≤ (18446744073709551615 : Int))) (.left (decide ((0 : Int) ≤ (2 : Int) * w ∧ (2 : Int) * w ≤ (18446744073709551615 : Int))) (.right (decide ((16 : Int) < (2 : Int) * w)) (.left (decide ((0 : Int) ≤ i + (1 : Int) ∧ i + (1 : Int) ≤ (18446744073709551615 : Int))) (.stop (Hd.again (again' dtT dtG dtM (Sum.inl { i := i, f := f, g := g, w := w, nx := nx, k := k })) [AV.sint IntKind.u64 a, AV.sint IntKind.u8 o, AV.sint IntKind.u8 r, AV.top, AV.top, AV.top, AV.top, AV.ptr (0 : Nat) (0 : Nat), AV.sint IntKind.u64 (nx + w), AV.sint IntKind.u64 ((2 : Int) * w), AV.sint IntKind.u64 (i + (1 : Int)), AV.slice (12 : Nat) (0 : Nat) (2 : Nat) (2 : Nat) Bool.false, AV.bool Bool.true, AV.int IntKind.i64 (2 : Int), AV.top, AV.top, AV.top, AV.top, AV.top, AV.top, AV.top, AV.top, AV.top, AV.sint IntKind.u64 i, AV.sint IntKind.u8 r, AV.sint IntKind.u64 r, AV.bool Bool.true, AV.sint IntKind.u64 i, AV.sint IntKind.u64 (i + (1 : Int)), AV.sint IntKind.u64 i, AV.sint IntKind.u8 o, AV.sint IntKind.u64 o, AV.bool Bool.true, AV.bool Bool.true, AV.ptr (0 : Nat) (0 : Nat), AV.sint IntKind.u64 a, AV.sint IntKind.u64 i, AV.sint IntKind.u64 (a + i), AV.int IntKind.i64 (0 : Int), AV.bool Bool.false, AV.bool Bool.false, AV.ptr (0 : Nat) (0 : Nat), AV.sint IntKind.u64 a, AV.sint IntKind.u64 i, AV.sint IntKind.u64 (a + i), AV.slice (12 : Nat) (0 : Nat) (2 : Nat) (2 : Nat) Bool.false, AV.int IntKind.i64 (2 : Int), AV.slice (12 : Nat) (0 : Nat) (2 : Nat) (2 : Nat) Bool.false, AV.int IntKind.i64 (2 : Int), AV.bool Bool.false, AV.int IntKind.i64 (1 : Int), AV.int IntKind.i64 (2 : Int), AV.bool Bool.false, AV.bool Bool.false, AV.slice (12 : Nat) (0 : Nat) (2 : Nat) (2 : Nat) Bool.false, AV.int IntKind.i64 (1 : Int), AV.ptr (12 : Nat) (2 : Nat), AV.agg [AV.int IntKind.u64 (7 : Int), AV.int IntKind.i64 (5 : Int)], AV.agg [AV.int IntKind.u64 (7 : Int), AV.int IntKind.i64 (5 : Int)], AV.bool Bool.true, AV.bool Bool.true, AV.bool Bool.true, AV.sint IntKind.u64 a, AV.sint IntKind.u64 i, AV.sint IntKind.u64 (a + i), AV.sint IntKind.u64 nx, AV.bool Bool.true, AV.bool Bool.false, AV.bool Bool.true, AV.sint IntKind.u64 nx, AV.sint IntKind.u64 w, AV.sint IntKind.u64 (nx + w), AV.sint IntKind.u64 w, AV.sint IntKind.u64 ((2 : Int) * w), AV.sint IntKind.u64 ((2 : Int) * w), AV.top]) [0, 12, 1] ([(Option.some (Blk.cells (0 : Nat) Option.none [AV.map (1 : Nat)]), Option.none), (Option.some (Blk.cells (8 : Nat) (Option.some (2 : Nat)) [AV.int IntKind.u64 (3 : Int), AV.int IntKind.i64 (1 : Int), AV.int IntKind.u64 (7 : Int), AV.int IntKind.i64 (5 : Int)]), Option.none), (Option.some (Blk.map (1 : Nat) [{ key := AV.int IntKind.u64 (7 : Int), val := AV.agg [AV.int IntKind.i64 (5 : Int), AV.sint IntKind.u64 (a + i), AV.sint IntKind.u64 w, AV.sint IntKind.u64 ((2 : Int) * w)], born := (0 : Nat) }, { key := AV.int IntKind.u64 (3 : Int), val := AV.agg [AV.int IntKind.i64 (1 : Int), AV.sint IntKind.u64 (a + i), AV.int IntKind.u64 (1 : Int), AV.int IntKind.u64 (2 : Int)], born := (1 : Nat) }] (2 : Nat)), Option.none)])))))))))))))) (.stop (Hd.tt) [] ([])))))) (.stop (Hd.tt) [] ([])))) (.conj (.stop (Hd.tt) [] ([])) (.conj (.left (decide (a + i ≤ a + i)) (.left (decide ((0 : Int) ≤ a + i - (a + i) ∧ a + i - (a + i) ≤ (18446744073709551615 : Int))) (.left (decide ((0 : Int) ≤ a + i - (a + i))) (.conj (.left (decide (a + i = a + i)) (.left (decide ((0 : Int) ≤ a + i ∧ a + i ≤ (18446744073709551615 : Int))) (.right (decide (a + i = nx)) (.left (decide ((0 : Int) ≤ i + (1 : Int) ∧ i + (1 : Int) ≤ (18446744073709551615 : Int))) (.stop (Hd.again (again' dtT dtG dtM (Sum.inl { i := i, f := f, g := g, w := w, nx := nx, k := k })) [AV.sint IntKind.u64 a, AV.sint IntKind.u8 o, AV.sint IntKind.u8 r, AV.top, AV.top, AV.top, AV.top, AV.ptr (0 : Nat) (0 : Nat), AV.sint IntKind.u64 nx, AV.sint IntKind.u64 w, AV.sint IntKind.u64 (i + (1 : Int)), AV.slice (10 : Nat) (0 : Nat) (1 : Nat) (1 : Nat) Bool.false, AV.bool Bool.false, AV.int IntKind.i64 (1 : Int), AV.top, AV.top, AV.top, AV.top, AV.top, AV.top, AV.top, AV.top, AV.top, AV.sint IntKind.u64 i, AV.sint IntKind.u8 r, AV.sint IntKind.u64 r, AV.bool Bool.true, AV.sint IntKind.u64 i, AV.sint IntKind.u64 (i + (1 : Int)), AV.sint IntKind.u64 i, AV.sint IntKind.u8 o, AV.sint IntKind.u64 o, AV.bool Bool.true, AV.bool Bool.true, AV.ptr (0 : Nat) (0 : Nat), AV.sint IntKind.u64 a, AV.sint IntKind.u64 i, AV.sint IntKind.u64 (a + i), AV.int IntKind.i64 (0 : Int), AV.bool Bool.false, AV.bool Bool.false, AV.ptr (0 : Nat) (0 : Nat), AV.sint IntKind.u64 a, AV.sint IntKind.u64 i, AV.sint IntKind.u64 (a + i), AV.slice (10 : Nat) (0 : Nat) (1 : Nat) (1 : Nat) Bool.false, AV.int IntKind.i64 (1 : Int), AV.slice (10 : Nat) (0 : Nat) (1 : Nat) (1 : Nat) Bool.false, AV.int IntKind.i64 (1 : Int), AV.bool Bool.false, AV.int IntKind.i64 (0 : Int), AV.int IntKind.i64 (1 : Int), AV.bool Bool.false, AV.bool Bool.false, AV.slice (10 : Nat) (0 : Nat) (1 : Nat) (1 : Nat) Bool.false, AV.int IntKind.i64 (0 : Int), AV.ptr (10 : Nat) (0 : Nat), AV.agg [AV.int IntKind.u64 (3 : Int), AV.int IntKind.i64 (1 : Int)], AV.agg [AV.int IntKind.u64 (7 : Int), AV.int IntKind.i64 (5 : Int)], AV.bool Bool.false, AV.bool Bool.false, AV.bool Bool.false, AV.sint IntKind.u64 a, AV.sint IntKind.u64 i, AV.sint IntKind.u64 (a + i), AV.sint IntKind.u64 nx, AV.bool Bool.false, AV.bool Bool.false, AV.bool Bool.false, AV.top, AV.top, AV.top, AV.top, AV.top, AV.top, AV.top]) [0, 10, 1] ([(Option.some (Blk.cells (0 : Nat) Option.none [AV.map (1 : Nat)]), Option.none), (Option.some (Blk.cells (10 : Nat) (Option.some (2 : Nat)) [AV.int IntKind.u64 (3 : Int), AV.int IntKind.i64 (1 : Int)]), Option.none), (Option.some (Blk.map (1 : Nat) [{ key := AV.int IntKind.u64 (7 : Int), val := AV.agg [AV.int IntKind.i64 (5 : Int), AV.sint IntKind.u64 f, AV.sint IntKind.u64 g, AV.sint IntKind.u64 w], born := (0 : Nat) }, { key := AV.int IntKind.u64 (3 : Int), val := AV.agg [AV.int IntKind.i64 (1 : Int), AV.sint IntKind.u64 (a + i), AV.int IntKind.u64 (1 : Int), AV.int IntKind.u64 (2 : Int)], born := (1 : Nat) }] (2 : Nat)), Option.none)])))))) (.stop (Hd.tt) [] ([])))))) (.stop (Hd.tt) [] ([]))))))) (.conj (.left (decide (a + i ≤ a + i)) (.left (decide ((0 : Int) ≤ a + i - (a + i) ∧ a + i - (a + i) ≤ (18446744073709551615 : Int))) (.left (decide ((0 : Int) ≤ a + i - (a + i))) (.conj (.stop (Hd.tt) [] ([])) (.conj (.left (decide (f ≤ a + i)) (.left (decide ((0 : Int) ≤ a + i - f ∧ a + i - f ≤ (18446744073709551615 : Int))) (.fork (decide (g ≤ a + i - f)) (.conj (.left (decide (a + i = a + i)) (.left (decide (f = f)) (.left (decide (g = g)) (.left (decide (w = w)) (.left (decide ((0 : Int) ≤ (2 : Int) * w ∧ (2 : Int) * w ≤ (18446744073709551615 : Int))) (.fork (decide ((16 : Int) < (2 : Int) * w)) (.left (decide ((0 : Int) ≤ a + i ∧ a + i ≤ (18446744073709551615 : Int))) (.left (decide (a + i = nx)) (.left (decide ((0 : Int) ≤ nx + w ∧ nx + w ≤ (18446744073709551615 : Int))) (.left (decide ((0 : Int) ≤ (2 : Int) * w ∧ (2 : Int) * w ≤ (18446744073709551615 : Int))) (.left (decide ((16 : Int) < (2 : Int) * w)) (.left (decide ((0 : Int) ≤ i + (1 : Int) ∧ i + (1 : Int) ≤ (18446744073709551615 : Int))) (.stop (Hd.again (again' dtT dtG dtM (Sum.inl { i := i, f := f, g := g, w := w, nx := nx, k := k })) [AV.sint IntKind.u64 a, AV.sint IntKind.u8 o, AV.sint IntKind.u8 r, AV.top, AV.top, AV.top, AV.top, AV.ptr (0 : Nat) (0 : Nat), AV.sint IntKind.u64 (nx + w), AV.sint IntKind.u64 (16 : Int), AV.sint IntKind.u64 (i + (1 : Int)), AV.slice (12 : Nat) (0 : Nat) (2 : Nat) (2 : Nat) Bool.false, AV.bool Bool.true, AV.int IntKind.i64 (2 : Int), AV.top, AV.top, AV.top, AV.top, AV.top, AV.top, AV.top, AV.top, AV.top, AV.sint IntKind.u64 i, AV.sint IntKind.u8 r, AV.sint IntKind.u64 r, AV.bool Bool.true, AV.sint IntKind.u64 i, AV.sint IntKind.u64 (i + (1 : Int)), AV.sint IntKind.u64 i, AV.sint IntKind.u8 o, AV.sint IntKind.u64 o, AV.bool Bool.true, AV.bool Bool.true, AV.ptr (0 : Nat) (0 : Nat), AV.sint IntKind.u64 a, AV.sint IntKind.u64 i, AV.sint IntKind.u64 (a + i), AV.int IntKind.i64 (0 : Int), AV.bool Bool.false, AV.bool Bool.false, AV.ptr (0 : Nat) (0 : Nat), AV.sint IntKind.u64 a, AV.sint IntKind.u64 i, AV.sint IntKind.u64 (a + i), AV.slice (12 : Nat) (0 : Nat) (2 : Nat) (2 : Nat) Bool.false, AV.int IntKind.i64 (2 : Int), AV.slice (12 : Nat) (0 : Nat) (2 : Nat) (2 : Nat) Bool.false, AV.int IntKind.i64 (2 : Int), AV.bool Bool.false, AV.int IntKind.i64 (1 : Int), AV.int IntKind.i64 (2 : Int), AV.bool Bool.false, AV.bool Bool.false, AV.slice (12 : Nat) (0 : Nat) (2 : Nat) (2 : Nat) Bool.false, AV.int IntKind.i64 (1 : Int), AV.ptr (12 : Nat) (2 : Nat), AV.agg [AV.int IntKind.u64 (7 : Int), AV.int IntKind.i64 (5 : Int)], AV.agg [AV.int IntKind.u64 (7 : Int), AV.int IntKind.i64 (5 : Int)], AV.bool Bool.true, AV.bool Bool.true, AV.bool Bool.true, AV.sint IntKind.u64 a, AV.sint IntKind.u64 i, AV.sint IntKind.u64 (a + i), AV.sint IntKind.u64 nx, AV.bool Bool.true, AV.bool Bool.false, AV.bool Bool.true, AV.sint IntKind.u64 nx, AV.sint IntKind.u64 w, AV.sint IntKind.u64 (nx + w), AV.sint IntKind.u64 w, AV.sint IntKind.u64 ((2 : Int) * w), AV.sint IntKind.u64 (16 : Int), AV.top]) [0, 12, 1] ([(Option.some (Blk.cells (0 : Nat) Option.none [AV.map (1 : Nat)]), Option.none), (Option.some (Blk.cells (8 : Nat) (Option.some (2 : Nat)) [AV.int IntKind.u64 (3 : Int), AV.int IntKind.i64 (1 : Int), AV.int IntKind.u64 (7 : Int), AV.int IntKind.i64 (5 : Int)]), Option.none), (Option.some (Blk.map (1 : Nat) [{ key := AV.int IntKind.u64 (7 : Int), val := AV.agg [AV.int IntKind.i64 (5 : Int), AV.sint IntKind.u64 (a + i), AV.sint IntKind.u64 w, AV.sint IntKind.u64 (16 : Int)], born := (0 : Nat) }, { key := AV.int IntKind.u64 (3 : Int), val := AV.agg [AV.int IntKind.i64 (1 : Int), AV.sint IntKind.u64 (a + i), AV.int IntKind.u64 (1 : Int), AV.int IntKind.u64 (2 : Int)], born := (1 : Nat) }] (2 : Nat)), Option.none)])))))))) (.left (decide ((0 : Int) ≤ a + i ∧ a + i ≤ (18446744073709551615 : Int))) (.left (decide (a + i = nx)) (.left (decide ((0 : Int) ≤ nx + w ∧ nx + w ≤ (18446744073709551615 : Int))) (.left (decide ((0 : Int) ≤ (2 : Int) * w ∧ (2 : Int) * w ≤ (18446744073709551615 : Int))) (.right (decide ((16 : Int) < (2 : Int) * w)) (.left (decide ((0 : Int) ≤ i + (1 : Int) ∧ i + (1 : Int) ≤ (18446744073709551615 : Int))) (.stop (Hd.again (again' dtT dtG dtM (Sum.inl { i := i, f := f, g := g, w := w, nx := nx, k := k })) [AV.sint IntKind.u64 a, AV.sint IntKind.u8 o, AV.sint IntKind.u8 r, AV.top, AV.top, AV.top, AV.top, AV.ptr (0 : Nat) (0 : Nat), AV.sint IntKind.u64 (nx + w), AV.sint IntKind.u64 ((2 : Int) * w), AV.sint IntKind.u64 (i + (1 : Int)), AV.slice (12 : Nat) (0 : Nat) (2 : Nat) (2 : Nat) Bool.false, AV.bool Bool.true, AV.int IntKind.i64 (2 : Int), AV.top, AV.top, AV.top, AV.top, AV.top, AV.top, AV.top, AV.top, AV.top, AV.sint IntKind.u64 i, AV.sint IntKind.u8 r, AV.sint IntKind.u64 r, AV.bool Bool.true, AV.sint IntKind.u64 i, AV.sint IntKind.u64 (i + (1 : Int)), AV.sint IntKind.u64 i, AV.sint IntKind.u8 o, AV.sint IntKind.u64 o, AV.bool Bool.true, AV.bool Bool.true, AV.ptr (0 : Nat) (0 : Nat), AV.sint IntKind.u64 a, AV.sint IntKind.u64 i, AV.sint IntKind.u64 (a + i), AV.int IntKind.i64 (0 : Int), AV.bool Bool.false, AV.bool Bool.false, AV.ptr (0 : Nat) (0 : Nat), AV.sint IntKind.u64 a, AV.sint IntKind.u64 i, AV.sint IntKind.u64 (a + i), AV.slice (12 : Nat) (0 : Nat) (2 : Nat) (2 : Nat) Bool.false, AV.int IntKind.i64 (2 : Int), AV.slice (12 : Nat) (0 : Nat) (2 : Nat) (2 : Nat) Bool.false, AV.int IntKind.i64 (2 : Int), AV.bool Bool.false, AV.int IntKind.i64 (1 : Int), AV.int IntKind.i64 (2 : Int), AV.bool Bool.false, AV.bool Bool.false, AV.slice (12 : Nat) (0 : Nat) (2 : Nat) (2 : Nat) Bool.false, AV.int IntKind.i64 (1 : Int), AV.ptr (12 : Nat) (2 : Nat), AV.agg [AV.int IntKind.u64 (7 : Int), AV.int IntKind.i64 (5 : Int)], AV.agg [AV.int IntKind.u64 (7 : Int), AV.int IntKind.i64 (5 : Int)], AV.bool Bool.true, AV.bool Bool.true, AV.bool Bool.true, AV.sint IntKind.u64 a, AV.sint IntKind.u64 i, AV.sint IntKind.u64 (a + i), AV.sint IntKind.u64 nx, AV.bool Bool.true, AV.bool Bool.false, AV.bool Bool.true, AV.sint IntKind.u64 nx, AV.sint IntKind.u64 w, AV.sint IntKind.u64 (nx + w), AV.sint IntKind.u64 w, AV.sint IntKind.u64 ((2 : Int) * w), AV.sint IntKind.u64 ((2 : Int) * w), AV.top]) [0, 12, 1] ([(Option.some (Blk.cells (0 : Nat) Option.none [AV.map (1 : Nat)]), Option.none), (Option.some (Blk.cells (8 : Nat) (Option.some (2 : Nat)) [AV.int IntKind.u64 (3 : Int), AV.int IntKind.i64 (1 : Int), AV.int IntKind.u64 (7 : Int), AV.int IntKind.i64 (5 : Int)]), Option.none), (Option.some (Blk.map (1 : Nat) [{ key := AV.int IntKind.u64 (7 : Int), val := AV.agg [AV.int IntKind.i64 (5 : Int), AV.sint IntKind.u64 (a + i), AV.sint IntKind.u64 w, AV.sint IntKind.u64 ((2 : Int) * w)], born := (0 : Nat) }, { key := AV.int IntKind.u64 (3 : Int), val := AV.agg [AV.int IntKind.i64 (1 : Int), AV.sint IntKind.u64 (a + i), AV.int IntKind.u64 (1 : Int), AV.int IntKind.u64 (2 : Int)], born := (1 : Nat) }] (2 : Nat)), Option.none)])))))))))))))) (.stop (Hd.tt) [] ([]))) (.conj (.left (decide (a + i = a + i)) (.left (decide ((0 : Int) ≤ a + i ∧ a + i ≤ (18446744073709551615 : Int))) (.right (decide (a + i = nx)) (.left (decide ((0 : Int) ≤ i + (1 : Int) ∧ i + (1 : Int) ≤ (18446744073709551615 : Int))) (.stop (Hd.again (again' dtT dtG dtM (Sum.inl { i := i, f := f, g := g, w := w, nx := nx, k := k })) [AV.sint IntKind.u64 a, AV.sint IntKind.u8 o, AV.sint IntKind.u8 r, AV.top, AV.top, AV.top, AV.top, AV.ptr (0 : Nat) (0 : Nat), AV.sint IntKind.u64 nx, AV.sint IntKind.u64 w, AV.sint IntKind.u64 (i + (1 : Int)), AV.slice (8 : Nat) (0 : Nat) (1 : Nat) (1 : Nat) Bool.false, AV.bool Bool.false, AV.int IntKind.i64 (1 : Int), AV.top, AV.top, AV.top, AV.top, AV.top, AV.top, AV.top, AV.top, AV.top, AV.sint IntKind.u64 i, AV.sint IntKind.u8 r, AV.sint IntKind.u64 r, AV.bool Bool.true, AV.sint IntKind.u64 i, AV.sint IntKind.u64 (i + (1 : Int)), AV.sint IntKind.u64 i, AV.sint IntKind.u8 o, AV.sint IntKind.u64 o, AV.bool Bool.true, AV.bool Bool.true, AV.ptr (0 : Nat) (0 : Nat), AV.sint IntKind.u64 a, AV.sint IntKind.u64 i, AV.sint IntKind.u64 (a + i), AV.int IntKind.i64 (0 : Int), AV.bool Bool.false, AV.bool Bool.false, AV.ptr (0 : Nat) (0 : Nat), AV.sint IntKind.u64 a, AV.sint IntKind.u64 i, AV.sint IntKind.u64 (a + i), AV.slice (8 : Nat) (0 : Nat) (1 : Nat) (1 : Nat) Bool.false, AV.int IntKind.i64 (1 : Int), AV.slice (8 : Nat) (0 : Nat) (1 : Nat) (1 : Nat) Bool.false, AV.int IntKind.i64 (1 : Int), AV.bool Bool.false, AV.int IntKind.i64 (0 : Int), AV.int IntKind.i64 (1 : Int), AV.bool Bool.false, AV.bool Bool.false, AV.slice (8 : Nat) (0 : Nat) (1 : Nat) (1 : Nat) Bool.false, AV.int IntKind.i64 (0 : Int), AV.ptr (8 : Nat) (0 : Nat), AV.agg [AV.int IntKind.u64 (3 : Int), AV.int IntKind.i64 (1 : Int)], AV.agg [AV.int IntKind.u64 (7 : Int), AV.int IntKind.i64 (5 : Int)], AV.bool Bool.false, AV.bool Bool.false, AV.bool Bool.false, AV.sint IntKind.u64 a, AV.sint IntKind.u64 i, AV.sint IntKind.u64 (a + i), AV.sint IntKind.u64 nx, AV.bool Bool.false, AV.bool Bool.false, AV.bool Bool.false, AV.top, AV.top, AV.top, AV.top, AV.top, AV.top, AV.top]) [0, 8, 1] ([(Option.some (Blk.cells (0 : Nat) Option.none [AV.map (1 : Nat)]), Option.none), (Option.some (Blk.cells (8 : Nat) (Option.some (2 : Nat)) [AV.int IntKind.u64 (3 : Int), AV.int IntKind.i64 (1 : Int)]), Option.none), (Option.some (Blk.map (1 : Nat) [{ key := AV.int IntKind.u64 (7 : Int), val := AV.agg [AV.int IntKind.i64 (5 : Int), AV.sint IntKind.u64 f, AV.sint IntKind.u64 g, AV.sint IntKind.u64 w], born := (0 : Nat) }, { key := AV.int IntKind.u64 (3 : Int), val := AV.agg [AV.int IntKind.i64 (1 : Int), AV.sint IntKind.u64 (a + i), AV.int IntKind.u64 (1 : Int), AV.int IntKind.u64 (2 : Int)], born := (1 : Nat) }] (2 : Nat)), Option.none)])))))) (.stop (Hd.tt) [] ([])))))) (.stop (Hd.tt) [] ([]))))))) (.stop (Hd.tt) [] ([])))))))) (.left (decide ((0 : Int) ≤ a + i ∧ a + i ≤ (18446744073709551615 : Int))) (.conj (.stop (Hd.tt) [] ([])) (.conj (.left (decide (f ≤ a + i)) (.left (decide ((0 : Int) ≤ a + i - f ∧ a + i - f ≤ (18446744073709551615 : Int))) (.fork (decide (g ≤ a + i - f)) (.conj (.left (decide (f = f)) (.left (decide (g = g)) (.left (decide (w = w)) (.left (decide ((0 : Int) ≤ (2 : Int) * w ∧ (2 : Int) * w ≤ (18446744073709551615 : Int))) (.fork (decide ((16 : Int) < (2 : Int) * w)) (.left (decide ((0 : Int) ≤ a + i ∧ a + i ≤ (18446744073709551615 : Int))) (.left (decide (a + i = nx)) (.left (decide ((0 : Int) ≤ nx + w ∧ nx + w ≤ (18446744073709551615 : Int))) (.left (decide ((0 : Int) ≤ (2 : Int) * w ∧ (2 : Int) * w ≤ (18446744073709551615 : Int))) (.left (decide ((16 : Int) < (2 : Int) * w)) (.left (decide ((0 : Int) ≤ i + (1 : Int) ∧ i + (1 : Int) ≤ (18446744073709551615 : Int))) (.stop (Hd.again (again' dtT dtG dtM (Sum.inl { i := i, f := f, g := g, w := w, nx := nx, k := k })) [AV.sint IntKind.u64 a, AV.sint IntKind.u8 o, AV.sint IntKind.u8 r, AV.top, AV.top, AV.top, AV.top, AV.ptr (0 : Nat) (0 : Nat), AV.sint IntKind.u64 (nx + w), AV.sint IntKind.u64 (16 : Int), AV.sint IntKind.u64 (i + (1 : Int)), AV.slice (7 : Nat) (0 : Nat) (1 : Nat) (1 : Nat) Bool.false, AV.bool Bool.true, AV.int IntKind.i64 (1 : Int), AV.top, AV.top, AV.top, AV.top, AV.top, AV.top, AV.top, AV.top, AV.top, AV.sint IntKind.u64 i, AV.sint IntKind.u8 r, AV.sint IntKind.u64 r, AV.bool Bool.true, AV.sint IntKind.u64 i, AV.sint IntKind.u64 (i + (1 : Int)), AV.sint IntKind.u64 i, AV.sint IntKind.u8 o, AV.sint IntKind.u64 o, AV.bool Bool.false, AV.bool Bool.false, AV.tuple [], AV.tuple [], AV.tuple [], AV.tuple [], AV.tuple [], AV.tuple [], AV.bool Bool.false, AV.ptr (0 : Nat) (0 : Nat), AV.sint IntKind.u64 a, AV.sint IntKind.u64 i, AV.sint IntKind.u64 (a + i), AV.slice (7 : Nat) (0 : Nat) (1 : Nat) (1 : Nat) Bool.false, AV.int IntKind.i64 (1 : Int), AV.slice (7 : Nat) (0 : Nat) (1 : Nat) (1 : Nat) Bool.false, AV.int IntKind.i64 (1 : Int), AV.bool Bool.false, AV.int IntKind.i64 (0 : Int), AV.int IntKind.i64 (1 : Int), AV.bool Bool.false, AV.bool Bool.false, AV.slice (7 : Nat) (0 : Nat) (1 : Nat) (1 : Nat) Bool.false, AV.int IntKind.i64 (0 : Int), AV.ptr (7 : Nat) (0 : Nat), AV.agg [AV.int IntKind.u64 (7 : Int), AV.int IntKind.i64 (5 : Int)], AV.agg [AV.int IntKind.u64 (7 : Int), AV.int IntKind.i64 (5 : Int)], AV.bool Bool.true, AV.bool Bool.true, AV.bool Bool.true, AV.sint IntKind.u64 a, AV.sint IntKind.u64 i, AV.sint IntKind.u64 (a + i), AV.sint IntKind.u64 nx, AV.bool Bool.true, AV.bool Bool.false, AV.bool Bool.true, AV.sint IntKind.u64 nx, AV.sint IntKind.u64 w, AV.sint IntKind.u64 (nx + w), AV.sint IntKind.u64 w, AV.sint IntKind.u64 ((2 : Int) * w), AV.sint IntKind.u64 (16 : Int), AV.top]) [0, 7, 1] ([(Option.some (Blk.cells (0 : Nat) Option.none [AV.map (1 : Nat)]), Option.none), (Option.some (Blk.cells (7 : Nat) (Option.some (2 : Nat)) [AV.int IntKind.u64 (7 : Int), AV.int IntKind.i64 (5 : Int)]), Option.none), (Option.some (Blk.map (1 : Nat) [{ key := AV.int IntKind.u64 (7 : Int), val := AV.agg [AV.int IntKind.i64 (5 : Int), AV.sint IntKind.u64 (a + i), AV.sint IntKind.u64 w, AV.sint IntKind.u64 (16 : Int)], born := (0 : Nat) }] (1 : Nat)), Option.none)])))))))) (.left (decide ((0 : Int) ≤ a + i ∧ a + i ≤ (18446744073709551615 : Int))) (.left (decide (a + i = nx)) (.left (decide ((0 : Int) ≤ nx + w ∧ nx + w ≤ (18446744073709551615 : Int))) (.left (decide ((0 : Int) ≤ (2 : Int) * w ∧ (2 : Int) * w ≤ (18446744073709551615 : Int))) (.right (decide ((16 : Int) < (2 : Int) * w)) (.left (decide ((0 : Int) ≤ i + (1 : Int) ∧ i + (1 : Int) ≤ (18446744073709551615 : Int))) (.stop (Hd.again (again' dtT dtG dtM (Sum.inl { i := i, f := f, g := g, w := w, nx := nx, k := k })) [AV.sint IntKind.u64 a, AV.sint IntKind.u8 o, AV.sint IntKind.u8 r, AV.top, AV.top, AV.top, AV.top, AV.ptr (0 : Nat) (0 : Nat), AV.sint IntKind.u64 (nx + w), AV.sint IntKind.u64 ((2 : Int) * w), AV.sint IntKind.u64 (i + (1 : Int)), AV.slice (7 : Nat) (0 : Nat) (1 : Nat) (1 : Nat) Bool.false, AV.bool Bool.true, AV.int IntKind.i64 (1 : Int), AV.top, AV.top, AV.top, AV.top, AV.top, AV.top, AV.top, AV.top, AV.top, AV.sint IntKind.u64 i, AV.sint IntKind.u8 r, AV.sint IntKind.u64 r, AV.bool Bool.true, AV.sint IntKind.u64 i, AV.sint IntKind.u64 (i + (1 : Int)), AV.sint IntKind.u64 i, AV.sint IntKind.u8 o, AV.sint IntKind.u64 o, AV.bool Bool.false, AV.bool Bool.false, AV.tuple [], AV.tuple [], AV.tuple [], AV.tuple [], AV.tuple [], AV.tuple [], AV.bool Bool.false, AV.ptr (0 : Nat) (0 : Nat), AV.sint IntKind.u64 a, AV.sint IntKind.u64 i, AV.sint IntKind.u64 (a + i), AV.slice (7 : Nat) (0 : Nat) (1 : Nat) (1 : Nat) Bool.false, AV.int IntKind.i64 (1 : Int), AV.slice (7 : Nat) (0 : Nat) (1 : Nat) (1 : Nat) Bool.false, AV.int IntKind.i64 (1 : Int), AV.bool Bool.false, AV.int IntKind.i64 (0 : Int), AV.int IntKind.i64 (1 : Int), AV.bool Bool.false, AV.bool Bool.false, AV.slice (7 : Nat) (0 : Nat) (1 : Nat) (1 : Nat) Bool.false, AV.int IntKind.i64 (0 : Int), AV.ptr (7 : Nat) (0 : Nat), AV.agg [AV.int IntKind.u64 (7 : Int), AV.int IntKind.i64 (5 : Int)], AV.agg [AV.int IntKind.u64 (7 : Int), AV.int IntKind.i64 (5 : Int)], AV.bool Bool.true, AV.bool Bool.true, AV.bool Bool.true, AV.sint IntKind.u64 a, AV.sint IntKind.u64 i, AV.sint IntKind.u64 (a + i), AV.sint IntKind.u64 nx, AV.bool Bool.true, AV.bool Bool.false, AV.bool Bool.true, AV.sint IntKind.u64 nx, AV.sint IntKind.u64 w, AV.sint IntKind.u64 (nx + w), AV.sint IntKind.u64 w, AV.sint IntKind.u64 ((2 : Int) * w), AV.sint IntKind.u64 ((2 : Int) * w), AV.top]) [0, 7, 1] ([(Option.some (Blk.cells (0 : Nat) Option.none [AV.map (1 : Nat)]), Option.none), (Option.some (Blk.cells (7 : Nat) (Option.some (2 : Nat)) [AV.int IntKind.u64 (7 : Int), AV.int IntKind.i64 (5 : Int)]), Option.none), (Option.some (Blk.map (1 : Nat) [{ key := AV.int IntKind.u64 (7 : Int), val := AV.agg [AV.int IntKind.i64 (5 : Int), AV.sint IntKind.u64 (a + i), AV.sint IntKind.u64 w, AV.sint IntKind.u64 ((2 : Int) * w)], born := (0 : Nat) }] (1 : Nat)), Option.none)]))))))))))))) (.stop (Hd.tt) [] ([]))) (.conj (.left (decide ((0 : Int) ≤ a + i ∧ a + i ≤ (18446744073709551615 : Int))) (.right (decide (a + i = nx)) (.left (decide ((0 : Int) ≤ i + (1 : Int) ∧ i + (1 : Int) ≤ (18446744073709551615 : Int))) (.stop (Hd.again (again' dtT dtG dtM (Sum.inl { i := i, f := f, g := g, w := w, nx := nx, k := k })) [AV.sint IntKind.u64 a, AV.sint IntKind.u8 o, AV.sint IntKind.u8 r, AV.top, AV.top, AV.top, AV.top, AV.ptr (0 : Nat) (0 : Nat), AV.sint IntKind.u64 nx, AV.sint IntKind.u64 w, AV.sint IntKind.u64 (i + (1 : Int)), AV.nilSlice, AV.bool Bool.false, AV.int IntKind.i64 (0 : Int), AV.top, AV.top, AV.top, AV.top, AV.top, AV.top, AV.top, AV.top, AV.top, AV.sint IntKind.u64 i, AV.sint IntKind.u8 r, AV.sint IntKind.u64 r, AV.bool Bool.true, AV.sint IntKind.u64 i, AV.sint IntKind.u64 (i + (1 : Int)), AV.sint IntKind.u64 i, AV.sint IntKind.u8 o, AV.sint IntKind.u64 o, AV.bool Bool.false, AV.bool Bool.false, AV.tuple [], AV.tuple [], AV.tuple [], AV.tuple [], AV.tuple [], AV.tuple [], AV.bool Bool.false, AV.ptr (0 : Nat) (0 : Nat), AV.sint IntKind.u64 a, AV.sint IntKind.u64 i, AV.sint IntKind.u64 (a + i), AV.nilSlice, AV.int IntKind.i64 (0 : Int), AV.nilSlice, AV.int IntKind.i64 (0 : Int), AV.bool Bool.false, AV.top, AV.top, AV.top, AV.top, AV.top, AV.top, AV.top, AV.top, AV.top, AV.top, AV.top, AV.bool Bool.false, AV.sint IntKind.u64 a, AV.sint IntKind.u64 i, AV.sint IntKind.u64 (a + i), AV.sint IntKind.u64 nx, AV.bool Bool.false, AV.bool Bool.false, AV.bool Bool.false, AV.top, AV.top, AV.top, AV.top, AV.top, AV.top, AV.top]) [0, 1] ([(Option.some (Blk.cells (0 : Nat) Option.none [AV.map (1 : Nat)]), Option.none), (Option.some (Blk.map (1 : Nat) [{ key := AV.int IntKind.u64 (7 : Int), val := AV.agg [AV.int IntKind.i64 (5 : Int), AV.sint IntKind.u64 f, AV.sint IntKind.u64 g, AV.sint IntKind.u64 w], born := (0 : Nat) }] (1 : Nat)), Option.none)]))))) (.stop (Hd.tt) [] ([])))))) (.stop (Hd.tt) [] ([]))))))) (.stop (Hd.call (15 : Nat) []) [] ([])))) (by kernel_rfl) ?_
   refine hold_leftD0 (Classical.byContradiction fun h2 => by omega) ?_
   refine hold_forkD (fun h2 => ?_) (fun h2 => ?_)
   ·
    refine hold_leftD0 (Classical.byContradiction fun h3 => by omega) ?_
    refine hold_forkD (fun h3 => ?_) (fun h3 => ?_)
    ·
     refine hold_leftD0 (Classical.byContradiction fun h4 => by omega) ?_
     refine hold_rightD0 (fun h4 => by omega) ?_
     refine hold_leftD0 (Classical.byContradiction fun h4 => by omega) ?_
     refine hold_conj ?_ ?_
     ·
      refine hold_stop (fun hd hb => ?_)
      exact ok_tt hd
     refine hold_conj ?_ ?_
     ·
      refine hold_leftD0 (Classical.byContradiction fun h4 => by omega) ?_
      refine hold_leftD0 (Classical.byContradiction fun h4 => by omega) ?_
      refine hold_forkD (fun h4 => ?_) (fun h4 => ?_)
      ·
       refine hold_conj ?_ ?_
       ·
        refine hold_stop (fun hd hb => ?_)
        exact ok_tt hd
       refine hold_conj ?_ ?_
       ·
        refine hold_leftD0 (Classical.byContradiction fun h5 => by omega) ?_
        refine hold_leftD0 (Classical.byContradiction fun h5 => by omega) ?_
        refine hold_leftD0 (Classical.byContradiction fun h5 => by omega) ?_
        refine hold_conj ?_ ?_
        ·
         refine hold_leftD0 (Classical.byContradiction fun h5 => by omega) ?_
         refine hold_leftD0 (Classical.byContradiction fun h5 => by omega) ?_
         refine hold_leftD0 (Classical.byContradiction fun h5 => by omega) ?_
         refine hold_leftD0 (Classical.byContradiction fun h5 => by omega) ?_
         refine hold_leftD0 (Classical.byContradiction fun h5 => by omega) ?_
         refine hold_forkD (fun h5 => ?_) (fun h5 => ?_)
         ·
          refine hold_leftD0 (Classical.byContradiction fun h6 => by omega) ?_
          refine hold_leftD0 (Classical.byContradiction fun h6 => by omega) ?_
          refine hold_leftD0 (Classical.byContradiction fun h6 => by omega) ?_
          refine hold_leftD0 (Classical.byContradiction fun h6 => by omega) ?_
          refine hold_leftD0 (Classical.byContradiction fun h6 => by omega) ?_
          refine hold_leftD0 (Classical.byContradiction fun h6 => by omega) ?_
          refine hold_stop (fun hd hb => ?_)
          refine ok_again hd [some 0, some 1] (.inr ⟨i + 1, _, _, _, _, _, _, _, ?_⟩) ?_ (fitsT _ (look_fst hb) (by first | exact look_fst (look_tl hb) | exact look_fst (look_tl (look_tl hb))) (by decide) (by first | exact fit_n | exact fit_i) (by first | exact fit_n | exact fit_i) (by first | exact fit_n | exact fit_i) (by first | exact fit_n | exact fit_i) (by first | exact fit_n | exact fit_i) (by first | exact fit_n | exact fit_i) (by simp only [dtS, fitsA, fitA, and_self, and_true, true_and, List.getElem?_cons_zero]; first | exact rfl | exact ⟨rfl, rfl⟩))
          · omega
          · show (r - (i + 1)).toNat < (r - i).toNat
            omega
         refine hold_leftD0 (Classical.byContradiction fun h6 => by omega) ?_
         refine hold_leftD0 (Classical.byContradiction fun h6 => by omega) ?_
         refine hold_leftD0 (Classical.byContradiction fun h6 => by omega) ?_
         refine hold_leftD0 (Classical.byContradiction fun h6 => by omega) ?_
         refine hold_rightD0 (fun h6 => by omega) ?_
         refine hold_leftD0 (Classical.byContradiction fun h6 => by omega) ?_
         refine hold_stop (fun hd hb => ?_)
         refine ok_again hd [some 0, some 1] (.inr ⟨i + 1, _, _, _, _, _, _, _, ?_⟩) ?_ (fitsT _ (look_fst hb) (by first | exact look_fst (look_tl hb) | exact look_fst (look_tl (look_tl hb))) (by decide) (by first | exact fit_n | exact fit_i) (by first | exact fit_n | exact fit_i) (by first | exact fit_n | exact fit_i) (by first | exact fit_n | exact fit_i) (by first | exact fit_n | exact fit_i) (by first | exact fit_n | exact fit_i) (by simp only [dtS, fitsA, fitA, and_self, and_true, true_and, List.getElem?_cons_zero]; first | exact rfl | exact ⟨rfl, rfl⟩))
         · omega
         · show (r - (i + 1)).toNat < (r - i).toNat
           omega
        refine hold_stop (fun hd hb => ?_)
        exact ok_tt hd
       refine hold_stop (fun hd hb => ?_)
       exact ok_tt hd
      refine hold_conj ?_ ?_
      ·
       refine hold_stop (fun hd hb => ?_)
       exact ok_tt hd
      refine hold_conj ?_ ?_
      ·
       refine hold_leftD0 (Classical.byContradiction fun h5 => by omega) ?_
       refine hold_leftD0 (Classical.byContradiction fun h5 => by omega) ?_
       refine hold_leftD0 (Classical.byContradiction fun h5 => by omega) ?_
       refine hold_conj ?_ ?_
       ·
        refine hold_leftD0 (Classical.byContradiction fun h5 => by omega) ?_
        refine hold_leftD0 (Classical.byContradiction fun h5 => by omega) ?_
        refine hold_rightD0 (fun h5 => by omega) ?_
        refine hold_leftD0 (Classical.byContradiction fun h5 => by omega) ?_
        refine hold_stop (fun hd hb => ?_)
        refine ok_again hd [some 0, some 1] (.inr ⟨i + 1, _, _, _, _, _, _, _, ?_⟩) ?_ (fitsT _ (look_fst hb) (by first | exact look_fst (look_tl hb) | exact look_fst (look_tl (look_tl hb))) (by decide) (by first | exact fit_n | exact fit_i) (by first | exact fit_n | exact fit_i) (by first | exact fit_n | exact fit_i) (by first | exact fit_n | exact fit_i) (by first | exact fit_n | exact fit_i) (by first | exact fit_n | exact fit_i) (by simp only [dtS, fitsA, fitA, and_self, and_true, true_and, List.getElem?_cons_zero]; first | exact rfl | exact ⟨rfl, rfl⟩))
        · omega
        · show (r - (i + 1)).toNat < (r - i).toNat
          omega
       refine hold_stop (fun hd hb => ?_)
       exact ok_tt hd
      refine hold_stop (fun hd hb => ?_)
      exact ok_tt hd
     refine hold_conj ?_ ?_
     ·
      refine hold_leftD0 (Classical.byContradiction fun h4 => by omega) ?_
      refine hold_leftD0 (Classical.byContradiction fun h4 => by omega) ?_
      refine hold_leftD0 (Classical.byContradiction fun h4 => by omega) ?_
      refine hold_conj ?_ ?_
      ·
       refine hold_stop (fun hd hb => ?_)
       exact ok_tt hd
      refine hold_conj ?_ ?_
      ·
       refine hold_leftD0 (Classical.byContradiction fun h4 => by omega) ?_
       refine hold_leftD0 (Classical.byContradiction fun h4 => by omega) ?_
       refine hold_forkD (fun h4 => ?_) (fun h4 => ?_)
       ·
        refine hold_conj ?_ ?_
        ·
         refine hold_leftD0 (Classical.byContradiction fun h5 => by omega) ?_
         refine hold_leftD0 (Classical.byContradiction fun h5 => by omega) ?_
         refine hold_leftD0 (Classical.byContradiction fun h5 => by omega) ?_
         refine hold_leftD0 (Classical.byContradiction fun h5 => by omega) ?_
         refine hold_leftD0 (Classical.byContradiction fun h5 => by omega) ?_
         refine hold_forkD (fun h5 => ?_) (fun h5 => ?_)
         ·
          refine hold_leftD0 (Classical.byContradiction fun h6 => by omega) ?_
          refine hold_leftD0 (Classical.byContradiction fun h6 => by omega) ?_
          refine hold_leftD0 (Classical.byContradiction fun h6 => by omega) ?_
          refine hold_leftD0 (Classical.byContradiction fun h6 => by omega) ?_
          refine hold_leftD0 (Classical.byContradiction fun h6 => by omega) ?_
          refine hold_leftD0 (Classical.byContradiction fun h6 => by omega) ?_
          refine hold_stop (fun hd hb => ?_)
          refine ok_again hd [some 0, some 1] (.inr ⟨i + 1, _, _, _, _, _, _, _, ?_⟩) ?_ (fitsT _ (look_fst hb) (by first | exact look_fst (look_tl hb) | exact look_fst (look_tl (look_tl hb))) (by decide) (by first | exact fit_n | exact fit_i) (by first | exact fit_n | exact fit_i) (by first | exact fit_n | exact fit_i) (by first | exact fit_n | exact fit_i) (by first | exact fit_n | exact fit_i) (by first | exact fit_n | exact fit_i) (by simp only [dtS, fitsA, fitA, and_self, and_true, true_and, List.getElem?_cons_zero]; first | exact rfl | exact ⟨rfl, rfl⟩))
          · omega
          · show (r - (i + 1)).toNat < (r - i).toNat
            omega
         refine hold_leftD0 (Classical.byContradiction fun h6 => by omega) ?_
         refine hold_leftD0 (Classical.byContradiction fun h6 => by omega) ?_
         refine hold_leftD0 (Classical.byContradiction fun h6 => by omega) ?_
         refine hold_leftD0 (Classical.byContradiction fun h6 => by omega) ?_
         refine hold_rightD0 (fun h6 => by omega) ?_
         refine hold_leftD0 (Classical.byContradiction fun h6 => by omega) ?_
         refine hold_stop (fun hd hb => ?_)
         refine ok_again hd [some 0, some 1] (.inr ⟨i + 1, _, _, _, _, _, _, _, ?_⟩) ?_ (fitsT _ (look_fst hb) (by first | exact look_fst (look_tl hb) | exact look_fst (look_tl (look_tl hb))) (by decide) (by first | exact fit_n | exact fit_i) (by first | exact fit_n | exact fit_i) (by first | exact fit_n | exact fit_i) (by first | exact fit_n | exact fit_i) (by first | exact fit_n | exact fit_i) (by first | exact fit_n | exact fit_i) (by simp only [dtS, fitsA, fitA, and_self, and_true, true_and, List.getElem?_cons_zero]; first | exact rfl | exact ⟨rfl, rfl⟩))
         · omega
         · show (r - (i + 1)).toNat < (r - i).toNat
           omega
        refine hold_stop (fun hd hb => ?_)
        exact ok_tt hd
       refine hold_conj ?_ ?_
       ·
        refine hold_leftD0 (Classical.byContradiction fun h5 => by omega) ?_
        refine hold_leftD0 (Classical.byContradiction fun h5 => by omega) ?_
        refine hold_rightD0 (fun h5 => by omega) ?_
        refine hold_leftD0 (Classical.byContradiction fun h5 => by omega) ?_
        refine hold_stop (fun hd hb => ?_)
        refine ok_again hd [some 0, some 1] (.inr ⟨i + 1, _, _, _, _, _, _, _, ?_⟩) ?_ (fitsT _ (look_fst hb) (by first | exact look_fst (look_tl hb) | exact look_fst (look_tl (look_tl hb))) (by decide) (by first | exact fit_n | exact fit_i) (by first | exact fit_n | exact fit_i) (by first | exact fit_n | exact fit_i) (by first | exact fit_n | exact fit_i) (by first | exact fit_n | exact fit_i) (by first | exact fit_n | exact fit_i) (by simp only [dtS, fitsA, fitA, and_self, and_true, true_and, List.getElem?_cons_zero]; first | exact rfl | exact ⟨rfl, rfl⟩))
        · omega
        · show (r - (i + 1)).toNat < (r - i).toNat
          omega
       refine hold_stop (fun hd hb => ?_)
       exact ok_tt hd
      refine hold_stop (fun hd hb => ?_)
      exact ok_tt hd
     refine hold_stop (fun hd hb => ?_)
     exact ok_tt hd
    refine hold_leftD0 (Classical.byContradiction fun h4 => by omega) ?_
    refine hold_conj ?_ ?_
    ·
     refine hold_stop (fun hd hb => ?_)
     exact ok_tt hd
    refine hold_conj ?_ ?_
    ·
     refine hold_leftD0 (Classical.byContradiction fun h4 => by omega) ?_
     refine hold_leftD0 (Classical.byContradiction fun h4 => by omega) ?_
     refine hold_forkD (fun h4 => ?_) (fun h4 => ?_)
     ·
      refine hold_conj ?_ ?_
      ·
       refine hold_leftD0 (Classical.byContradiction fun h5 => by omega) ?_
       refine hold_leftD0 (Classical.byContradiction fun h5 => by omega) ?_
       refine hold_leftD0 (Classical.byContradiction fun h5 => by omega) ?_
       refine hold_leftD0 (Classical.byContradiction fun h5 => by omega) ?_
       refine hold_forkD (fun h5 => ?_) (fun h5 => ?_)
       ·
        refine hold_leftD0 (Classical.byContradiction fun h6 => by omega) ?_
        refine hold_leftD0 (Classical.byContradiction fun h6 => by omega) ?_
        refine hold_leftD0 (Classical.byContradiction fun h6 => by omega) ?_
        refine hold_leftD0 (Classical.byContradiction fun h6 => by omega) ?_
        refine hold_leftD0 (Classical.byContradiction fun h6 => by omega) ?_
        refine hold_leftD0 (Classical.byContradiction fun h6 => by omega) ?_
        refine hold_stop (fun hd hb => ?_)
        refine ok_again hd [some 0, some 1] (.inl ⟨i + 1, _, _, _, _, ?_⟩) ?_ (fitsF _ (look_fst hb) (by first | exact look_fst (look_tl hb) | exact look_fst (look_tl (look_tl hb))) (by decide) (by first | exact fit_n | exact fit_i) (by first | exact fit_n | exact fit_i) (by first | exact fit_n | exact fit_i) (by simp only [dtS, fitsA, fitA, and_self, and_true, true_and, List.getElem?_cons_zero]; first | exact rfl | exact ⟨rfl, rfl⟩))
        · omega
        · show (r - (i + 1)).toNat < (r - i).toNat
          omega
       refine hold_leftD0 (Classical.byContradiction fun h6 => by omega) ?_
       refine hold_leftD0 (Classical.byContradiction fun h6 => by omega) ?_
       refine hold_leftD0 (Classical.byContradiction fun h6 => by omega) ?_
       refine hold_leftD0 (Classical.byContradiction fun h6 => by omega) ?_
       refine hold_rightD0 (fun h6 => by omega) ?_
       refine hold_leftD0 (Classical.byContradiction fun h6 => by omega) ?_
       refine hold_stop (fun hd hb => ?_)
       refine ok_again hd [some 0, some 1] (.inl ⟨i + 1, _, _, _, _, ?_⟩) ?_ (fitsF _ (look_fst hb) (by first | exact look_fst (look_tl hb) | exact look_fst (look_tl (look_tl hb))) (by decide) (by first | exact fit_n | exact fit_i) (by first | exact fit_n | exact fit_i) (by first | exact fit_n | exact fit_i) (by simp only [dtS, fitsA, fitA, and_self, and_true, true_and, List.getElem?_cons_zero]; first | exact rfl | exact ⟨rfl, rfl⟩))
       · omega
       · show (r - (i + 1)).toNat < (r - i).toNat
         omega
      refine hold_stop (fun hd hb => ?_)
      exact ok_tt hd
     refine hold_conj ?_ ?_
     ·
      refine hold_leftD0 (Classical.byContradiction fun h5 => by omega) ?_
      refine hold_rightD0 (fun h5 => by omega) ?_
      refine hold_leftD0 (Classical.byContradiction fun h5 => by omega) ?_
      refine hold_stop (fun hd hb => ?_)
      refine ok_again hd [some 0, some 1] (.inl ⟨i + 1, _, _, _, _, ?_⟩) ?_ (fitsF _ (look_fst hb) (by first | exact look_fst (look_tl hb) | exact look_fst (look_tl (look_tl hb))) (by decide) (by first | exact fit_n | exact fit_i) (by first | exact fit_n | exact fit_i) (by first | exact fit_n | exact fit_i) (by simp only [dtS, fitsA, fitA, and_self, and_true, true_and, List.getElem?_cons_zero]; first | exact rfl | exact ⟨rfl, rfl⟩))
      · omega
      · show (r - (i + 1)).toNat < (r - i).toNat
        omega
     refine hold_stop (fun hd hb => ?_)
     exact ok_tt hd
    refine hold_stop (fun hd hb => ?_)
    exact ok_tt hd
   refine hold_stop (fun hd hb => ?_)
   refine ok_call0 hd works rfl ?_
   rintro x G ⟨rfl, rfl⟩
   refine ⟨rfl, fun g hg => (by cases hg), ?_⟩
   refine ok_sk (.stop []) (S := .stop (Hd.leaf (AV.bool Bool.true)) [] ([])) (by kernel_rfl) ?_
   refine hold_stop (fun hd hb => ?_)
   exact ok_leaf0 hd rfl ⟨rfl, rfl⟩
  refine ok_sk (.l (.both (.l (.r (.l (.both (.stop []) (.both (.l (.l (.both (.both (.stop []) (.both (.l (.l (.both (.both (.l (.l (.l (.l (.both (.l (.l (.l (.l (.both (.l (.l (.l (.l (.l (.l (.stop [0, 11, 1]))))))) (.l (.l (.l (.l (.r (.l (.stop [0, 11, 1])))))))))))) (.l (.l (.l (.l (.both (.l (.l (.l (.l (.l (.l (.stop [0, 11, 1]))))))) (.l (.l (.l (.l (.r (.l (.stop [0, 11, 1]))))))))))))))))) (.stop [])) (.both (.l (.l (.l (.l (.both (.l (.l (.l (.l (.l (.l (.stop [0, 7, 1]))))))) (.l (.l (.l (.l (.r (.l (.stop [0, 7, 1])))))))))))) (.stop []))))) (.stop []))) (.both (.stop []) (.both (.l (.l (.both (.both (.l (.l (.l (.l (.both (.l (.r (.l (.stop [0, 9, 1])))) (.l (.r (.l (.stop [0, 9, 1]))))))))) (.stop [])) (.both (.l (.r (.l (.stop [0, 1])))) (.stop []))))) (.stop [])))))) (.both (.l (.l (.both (.both (.stop []) (.both (.l (.l (.both (.both (.l (.l (.l (.l (.both (.l (.l (.l (.l (.both (.l (.l (.l (.l (.l (.l (.stop [0, 11, 1]))))))) (.l (.l (.l (.l (.r (.l (.stop [0, 11, 1])))))))))))) (.l (.l (.l (.l (.both (.l (.l (.l (.l (.l (.l (.stop [0, 11, 1]))))))) (.l (.l (.l (.l (.r (.l (.stop [0, 11, 1]))))))))))))))))) (.stop [])) (.both (.l (.l (.l (.l (.both (.l (.r (.l (.stop [0, 7, 1])))) (.l (.r (.l (.stop [0, 7, 1]))))))))) (.stop []))))) (.stop []))) (.both (.stop []) (.both (.l (.l (.both (.both (.l (.l (.l (.l (.both (.l (.l (.l (.l (.l (.l (.stop [0, 9, 1]))))))) (.l (.l (.l (.l (.r (.l (.stop [0, 9, 1])))))))))))) (.stop [])) (.both (.l (.r (.l (.stop [0, 1])))) (.stop []))))) (.stop [])))))) (.stop []))))))) (.stop []))) (S := .left (decide ((0 : Int) ≤ r ∧ r ≤ (18446744073709551615 : Int))) (.fork (decide (i < r)) (.left (decide ((0 : Int) ≤ o ∧ o ≤ (18446744073709551615 : Int))) (.right (decide (i = o)) (.left (decide ((0 : Int) ≤ a + i ∧ a + i ≤ (18446744073709551615 : Int))) (.conj (.stop (Hd.tt) [] ([])) (.conj (.left (decide (f ≤ a + i)) (.left (decide ((0 : Int) ≤ a + i - f ∧ a + i - f ≤ (18446744073709551615 : Int))) (.fork (decide (g ≤ a + i - f)) (.conj (.stop (Hd.tt) [] ([])) (.conj (.left (decide (f3 ≤ a + i)) (.left (decide ((0 : Int) ≤ a + i - f3 ∧ a + i - f3 ≤ (18446744073709551615 : Int))) (.fork (decide (g3 ≤ a + i - f3)) (.conj (.left (decide (f3 = f3)) (.left (decide (g3 = g3)) (.left (decide (w3 = w3)) (.left (decide ((0 : Int) ≤ (2 : Int) * w3 ∧ (2 : Int) * w3 ≤ (18446744073709551615 : Int))) (.fork (decide ((16 : Int) < (2 : Int) * w3)) (.left (decide (f = f)) (.left (decide (g = g)) (.left (decide (w = w)) (.left (decide ((0 : Int) ≤ (2 : Int) * w ∧ (2 : Int) * w ≤ (18446744073709551615 : Int))) (.fork (decide ((16 : Int) < (2 : Int) * w)) (.left (decide ((0 : Int) ≤ a + i ∧ a + i ≤ (18446744073709551615 : Int))) (.left (decide (a + i = nx)) (.left (decide ((0 : Int) ≤ nx + w ∧ nx + w ≤ (18446744073709551615 : Int))) (.left (decide ((0 : Int) ≤ (2 : Int) * w ∧ (2 : Int) * w ≤ (18446744073709551615 : Int))) (.left (decide ((16 : Int) < (2 : Int) * w)) (.left (decide ((0 : Int) ≤ i + (1 : Int) ∧ i + (1 : Int) ≤ (18446744073709551615 : Int))) (.stop (Hd.again (again' dtT dtG dtM (Sum.inr { i := i, f := f, g := g, w := w, nx := nx, f3 := f3, g3 := g3, w3 := w3, k := k })) [AV.sint IntKind.u64 a, AV.sint IntKind.u8 o, AV.sint IntKind.u8 r, AV.top, AV.top, AV.top, AV.top, AV.ptr (0 : Nat) (0 : Nat), AV.sint IntKind.u64 (nx + w), AV.sint IntKind.u64 (16 : Int), AV.sint IntKind.u64 (i + (1 : Int)), AV.slice (11 : Nat) (0 : Nat) (2 : Nat) (2 : Nat) Bool.false, AV.bool Bool.true, AV.int IntKind.i64 (2 : Int), AV.top, AV.top, AV.top, AV.top, AV.top, AV.top, AV.top, AV.top, AV.top, AV.sint IntKind.u64 i, AV.sint IntKind.u8 r, AV.sint IntKind.u64 r, AV.bool Bool.true, AV.sint IntKind.u64 i, AV.sint IntKind.u64 (i + (1 : Int)), AV.sint IntKind.u64 i, AV.sint IntKind.u8 o, AV.sint IntKind.u64 o, AV.bool Bool.false, AV.bool Bool.false, AV.tuple [], AV.tuple [], AV.tuple [], AV.tuple [], AV.tuple [], AV.tuple [], AV.bool Bool.false, AV.ptr (0 : Nat) (0 : Nat), AV.sint IntKind.u64 a, AV.sint IntKind.u64 i, AV.sint IntKind.u64 (a + i), AV.slice (11 : Nat) (0 : Nat) (2 : Nat) (2 : Nat) Bool.false, AV.int IntKind.i64 (2 : Int), AV.slice (11 : Nat) (0 : Nat) (2 : Nat) (2 : Nat) Bool.false, AV.int IntKind.i64 (2 : Int), AV.bool Bool.false, AV.int IntKind.i64 (1 : Int), AV.int IntKind.i64 (2 : Int), AV.bool Bool.false, AV.bool Bool.false, AV.slice (11 : Nat) (0 : Nat) (2 : Nat) (2 : Nat) Bool.false, AV.int IntKind.i64 (1 : Int), AV.ptr (11 : Nat) (2 : Nat), AV.agg [AV.int IntKind.u64 (7 : Int), AV.int IntKind.i64 (5 : Int)], AV.agg [AV.int IntKind.u64 (7 : Int), AV.int IntKind.i64 (5 : Int)], AV.bool Bool.true, AV.bool Bool.true, AV.bool Bool.true, AV.sint IntKind.u64 a, AV.sint IntKind.u64 i, AV.sint IntKind.u64 (a + i), AV.sint IntKind.u64 nx, AV.bool Bool.true, AV.bool Bool.false, AV.bool Bool.true, AV.sint IntKind.u64 nx, AV.sint IntKind.u64 w, AV.sint IntKind.u64 (nx + w), AV.sint IntKind.u64 w, AV.sint IntKind.u64 ((2 : Int) * w), AV.sint IntKind.u64 (16 : Int), AV.top]) [0, 11, 1] ([(Option.some (Blk.cells (0 : Nat) Option.none [AV.map (1 : Nat)]), Option.none), (Option.some (Blk.cells (7 : Nat) (Option.some (2 : Nat)) [AV.int IntKind.u64 (3 : Int), AV.int IntKind.i64 (1 : Int), AV.int IntKind.u64 (7 : Int), AV.int IntKind.i64 (5 : Int)]), Option.none), (Option.some (Blk.map (1 : Nat) [{ key := AV.int IntKind.u64 (7 : Int), val := AV.agg [AV.int IntKind.i64 (5 : Int), AV.sint IntKind.u64 (a + i), AV.sint IntKind.u64 w, AV.sint IntKind.u64 (16 : Int)], born := (0 : Nat) }, { key := AV.int IntKind.u64 (3 : Int), val := AV.agg [AV.int IntKind.i64 (1 : Int), AV.sint IntKind.u64 (a + i), AV.sint IntKind.u64 w3, AV.sint IntKind.u64 (16 : Int)], born := (1 : Nat) }] (2 : Nat)), Option.none)])))))))) (.left (decide ((0 : Int) ≤ a + i ∧ a + i ≤ (18446744073709551615 : Int))) (.left (decide (a + i = nx)) (.left (decide ((0 : Int) ≤ nx + w ∧ nx + w ≤ (18446744073709551615 : Int))) (.left (decide ((0 : Int) ≤ (2 : Int) * w ∧ (2 : Int) * w ≤ (18446744073709551615 : Int))) (.right (decide ((16 : Int) < (2 : Int) * w)) (.left (decide ((0 : Int) ≤ i + (1 : Int) ∧ i + (1 : Int) ≤ (18446744073709551615 : Int))) (.stop (Hd.again (again' dtT dtG dtM (Sum.inr { i := i, f := f, g := g, w := w, nx := nx, f3 := f3, g3 := g3, w3 := w3, k := k })) [AV.sint IntKind.u64 a, AV.sint IntKind.u8 o, AV.sint IntKind.u8 r, AV.top, AV.top, AV.top, AV.top, AV.ptr (0 : Nat) (0 : Nat), AV.sint IntKind.u64 (nx + w), AV.sint IntKind.u64 ((2 : Int) * w), AV.sint IntKind.u64 (i + (1 : Int)), AV.slice (11 : Nat) (0 : Nat) (2 : Nat) (2 : Nat) Bool.false, AV.bool Bool.true, AV.int IntKind.i64 (2 : Int), AV.top, AV.top, AV.top, AV.top, AV.top, AV.top, AV.top, AV.top, AV.top, AV.sint IntKind.u64 i, AV.sint IntKind.u8 r, AV.sint IntKind.u64 r, AV.bool Bool.true, AV.sint IntKind.u64 i, AV.sint IntKind.u64 (i + (1 : Int)), AV.sint IntKind.u64 i, AV.sint IntKind.u8 o, AV.sint IntKind.u64 o, AV.bool Bool.false, AV.bool Bool.false, AV.tuple [], AV.tuple [], AV.tuple [], AV.tuple [], AV.tuple [], AV.tuple [], AV.bool Bool.false, AV.ptr (0 : Nat) (0 : Nat), AV.sint IntKind.u64 a, AV.sint IntKind.u64 i, AV.sint IntKind.u64 (a + i), AV.slice (11 : Nat) (0 : Nat) (2 : Nat) (2 : Nat) Bool.false, AV.int IntKind.i64 (2 : Int), AV.slice (11 : Nat) (0 : Nat) (2 : Nat) (2 : Nat) Bool.false, AV.int IntKind.i64 (2 : Int), AV.bool Bool.false, AV.int IntKind.i64 (1 : Int), AV.int IntKind.i64 (2 : Int), AV.bool Bool.false, AV.bool Bool.false, AV.slice (11 : Nat) (0 : Nat) (2 : Nat) (2 : Nat) Bool.false, AV.int IntKind.i64 (1 : Int), AV.ptr (11 : Nat) (2 : Nat), AV.agg [AV.int IntKind.u64 (7 : Int), AV.int IntKind.i64 (5 : Int)], AV.agg [AV.int IntKind.u64 (7 : Int), AV.int IntKind.i64 (5 : Int)], AV.bool Bool.true, AV.bool Bool.true, AV.bool Bool.true, AV.sint IntKind.u64 a, AV.sint IntKind.u64 i, AV.sint IntKind.u64 (a + i), AV.sint IntKind.u64 nx, AV.bool Bool.true, AV.bool Bool.false, AV.bool Bool.true, AV.sint IntKind.u64 nx, AV.sint IntKind.u64 w, AV.sint IntKind.u64 (nx + w), AV.sint IntKind.u64 w, AV.sint IntKind.u64 ((2 : Int) * w), AV.sint IntKind.u64 ((2 : Int) * w), AV.top]) [0, 11, 1] ([(Option.some (Blk.cells (0 : Nat) Option.none [AV.map (1 : Nat)]), Option.none), (Option.some (Blk.cells (7 : Nat) (Option.some (2 : Nat)) [AV.int IntKind.u64 (3 : Int), AV.int IntKind.i64 (1 : Int), AV.int IntKind.u64 (7 : Int), AV.int IntKind.i64 (5 : Int)]), Option.none), (Option.some (Blk.map (1 : Nat) [{ key := AV.int IntKind.u64 (7 : Int), val := AV.agg [AV.int IntKind.i64 (5 : Int), AV.sint IntKind.u64 (a + i), AV.sint IntKind.u64 w, AV.sint IntKind.u64 ((2 : Int) * w)], born := (0 : Nat) }, { key := AV.int IntKind.u64 (3 : Int), val := AV.agg [AV.int IntKind.i64 (1 : Int), AV.sint IntKind.u64 (a + i), AV.sint IntKind.u64 w3, AV.sint IntKind.u64 (16 : Int)], born := (1 : Nat) }] (2 : Nat)), Option.none)]))))))))))))) (.left (decide (f = f)) (.left (decide (g = g)) (.left (decide (w = w)) (.left (decide ((0 : Int) ≤ (2 : Int) * w ∧ (2 : Int) * w ≤ (18446744073709551615 : Int))) (.fork (decide ((16 : Int) < (2 : Int) * w)) (.left (decide ((0 : Int) ≤ a + i ∧ a + i ≤ (18446744073709551615 : Int))) (.left (decide (a + i = nx)) (.left (decide ((0 : Int) ≤ nx + w ∧ nx + w ≤ (18446744073709551615 : Int))) (.left (decide ((0 : Int) ≤ (2 : Int) * w ∧ (2 : Int) * w ≤ (18446744073709551615 : Int))) (.left (decide ((16 : Int) < (2 : Int) * w)) (.left (decide ((0 : Int) ≤ i + (1 : Int) ∧ i + (1 : Int) ≤ (18446744073709551615 : Int))) (.stop (Hd.again (again' dtT dtG dtM (Sum.inr { i := i, f := f, g := g, w := w, nx := nx, f3 := f3, g3 := g3, w3 := w3, k := k })) [AV.sint IntKind.u64 a, AV.sint IntKind.u8 o, AV.sint IntKind.u8 r, AV.top, AV.top, AV.top, AV.top, AV.ptr (0 : Nat) (0 : Nat), AV.sint IntKind.u64 (nx + w), AV.sint IntKind.u64 (16 : Int), AV.sint IntKind.u64 (i + (1 : Int)), AV.slice (11 : Nat) (0 : Nat) (2 : Nat) (2 : Nat) Bool.false, AV.bool Bool.true, AV.int IntKind.i64 (2 : Int), AV.top, AV.top, AV.top, AV.top, AV.top, AV.top, AV.top, AV.top, AV.top, AV.sint IntKind.u64 i, AV.sint IntKind.u8 r, AV.sint IntKind.u64 r, AV.bool Bool.true, AV.sint IntKind.u64 i, AV.sint IntKind.u64 (i + (1 : Int)), AV.sint IntKind.u64 i, AV.sint IntKind.u8 o, AV.sint IntKind.u64 o, AV.bool Bool.false, AV.bool Bool.false, AV.tuple [], AV.tuple [], AV.tuple [], AV.tuple [], AV.tuple [], AV.tuple [], AV.bool Bool.false, AV.ptr (0 : Nat) (0 : Nat), AV.sint IntKind.u64 a, AV.sint IntKind.u64 i, AV.sint IntKind.u64 (a + i), AV.slice (11 : Nat) (0 : Nat) (2 : Nat) (2 : Nat) Bool.false, AV.int IntKind.i64 (2 : Int), AV.slice (11 : Nat) (0 : Nat) (2 : Nat) (2 : Nat) Bool.false, AV.int IntKind.i64 (2 : Int), AV.bool Bool.false, AV.int IntKind.i64 (1 : Int), AV.int IntKind.i64 (2 : Int), AV.bool Bool.false, AV.bool Bool.false, AV.slice (11 : Nat) (0 : Nat) (2 : Nat) (2 : Nat) Bool.false, AV.int IntKind.i64 (1 : Int), AV.ptr (11 : Nat) (2 : Nat), AV.agg [AV.int IntKind.u64 (7 : Int), AV.int IntKind.i64 (5 : Int)], AV.agg [AV.int IntKind.u64 (7 : Int), AV.int IntKind.i64 (5 : Int)], AV.bool Bool.true, AV.bool Bool.true, AV.bool Bool.true, AV.sint IntKind.u64 a, AV.sint IntKind.u64 i, AV.sint IntKind.u64 (a + i), AV.sint IntKind.u64 nx, AV.bool Bool.true, AV.bool Bool.false, AV.bool Bool.true, AV.sint IntKind.u64 nx, AV.sint IntKind.u64 w, AV.sint IntKind.u64 (nx + w), AV.sint IntKind.u64 w, AV.sint IntKind.u64 ((2 : Int) * w), AV.sint IntKind.u64 (16 : Int), AV.top]) [0, 11, 1] ([(Option.some (Blk.cells (0 : Nat) Option.none [AV.map (1 : Nat)]), Option.none), (Option.some (Blk.cells (7 : Nat) (Option.some (2 : Nat)) [AV.int IntKind.u64 (3 : Int), AV.int IntKind.i64 (1 : Int), AV.int IntKind.u64 (7 : Int), AV.int IntKind.i64 (5 : Int)]), Option.none), (Option.some (Blk.map (1 : Nat) [{ key := AV.int IntKind.u64 (7 : Int), val := AV.agg [AV.int IntKind.i64 (5 : Int), AV.sint IntKind.u64 (a + i), AV.sint IntKind.u64 w, AV.sint IntKind.u64 (16 : Int)], born := (0 : Nat) }, { key := AV.int IntKind.u64 (3 : Int), val := AV.agg [AV.int IntKind.i64 (1 : Int), AV.sint IntKind.u64 (a + i), AV.sint IntKind.u64 w3, AV.sint IntKind.u64 ((2 : Int) * w3)], born := (1 : Nat) }] (2 : Nat)), Option.none)])))))))) (.left (decide ((0 : Int) ≤ a + i ∧ a + i ≤ (18446744073709551615 : Int))) (.left (decide (a + i = nx)) (.left (decide ((0 : Int) ≤ nx + w ∧ nx + w ≤ (18446744073709551615 : Int))) (.left (decide ((0 : Int) ≤ (2 : Int) * w ∧ (2 : Int) * w ≤ (18446744073709551615 : Int))) (.right (decide ((16 : Int) < (2 : Int) * w)) (.left (decide ((0 : Int) ≤ i + (1 : Int) ∧ i + (1 : Int) ≤ (18446744073709551615 : Int))) (.stop (Hd.again (again' dtT dtG dtM (Sum.inr { i := i, f := f, g := g, w := w, nx := nx, f3 := f3, g3 := g3, w3 := w3, k := k })) [AV.sint IntKind.u64 a, AV.sint IntKind.u8 o, AV.sint IntKind.u8 r, AV.top, AV.top, AV.top, AV.top, AV.ptr (0 : Nat) (0 : Nat), AV.sint IntKind.u64 (nx + w), AV.sint IntKind.u64 ((2 : Int) * w), AV.sint IntKind.u64 (i + (1 : Int)), AV.slice (11 : Nat) (0 : Nat) (2 : Nat) (2 : Nat) Bool.false, AV.bool Bool.true, AV.int IntKind.i64 (2 : Int), AV.top, AV.top, AV.top, AV.top, AV.top, AV.top, AV.top, AV.top, AV.top, AV.sint IntKind.u64 i, AV.sint IntKind.u8 r, AV.sint IntKind.u64 r, AV.bool Bool.true, AV.sint IntKind.u64 i, AV.sint IntKind.u64 (i + (1 : Int)), AV.sint IntKind.u64 i, AV.sint IntKind.u8 o, AV.sint IntKind.u64 o, AV.bool Bool.false, AV.bool Bool.false, AV.tuple [], AV.tuple [], AV.tuple [], AV.tuple [], AV.tuple [], AV.tuple [], AV.bool Bool.false, AV.ptr (0 : Nat) (0 : Nat), AV.sint IntKind.u64 a, AV.sint IntKind.u64 i, AV.sint IntKind.u64 (a + i), AV.slice (11 : Nat) (0 : Nat) (2 : Nat) (2 : Nat) Bool.false, AV.int IntKind.i64 (2 : Int), AV.slice (11 : Nat) (0 : Nat) (2 : Nat) (2 : Nat) Bool.false, AV.int IntKind.i64 (2 : Int), AV.bool Bool.false, AV.int IntKind.i64 (1 : Int), AV.int IntKind.i64 (2 : Int), AV.bool Bool.false, AV.bool Bool.false, AV.slice (11 : Nat) (0 : Nat) (2 : Nat) (2 : Nat) Bool.false, AV.int IntKind.i64 (1 : Int), AV.ptr (11 : Nat) (2 : Nat), AV.agg [AV.int IntKind.u64 (7 : Int), AV.int IntKind.i64 (5 : Int)], AV.agg [AV.int IntKind.u64 (7 : Int), AV.int IntKind.i64 (5 : Int)], AV.bool Bool.true, AV.bool Bool.true, AV.bool Bool.true, AV.sint IntKind.u64 a, AV.sint IntKind.u64 i, AV.sint IntKind.u64 (a + i), AV.sint IntKind.u64 nx, AV.bool Bool.true, AV.bool Bool.false, AV.bool Bool.true, AV.sint IntKind.u64 nx, AV.sint IntKind.u64 w, AV.sint IntKind.u64 (nx + w), AV.sint IntKind.u64 w, AV.sint IntKind.u64 ((2 : Int) * w), AV.sint IntKind.u64 ((2 : Int) * w), AV.top]) [0, 11, 1] ([(Option.some (Blk.cells (0 : Nat) Option.none [AV.map (1 : Nat)]), Option.none), (Option.some (Blk.cells (7 : Nat) (Option.some (2 : Nat)) [AV.int IntKind.u64 (3 : Int), AV.int IntKind.i64 (1 : Int), AV.int IntKind.u64 (7 : Int), AV.int IntKind.i64 (5 : Int)]), Option.none), (Option.some (Blk.map (1 : Nat) [{ key := AV.int IntKind.u64 (7 : Int), val := AV.agg [AV.int IntKind.i64 (5 : Int), AV.sint IntKind.u64 (a + i), AV.sint IntKind.u64 w, AV.sint IntKind.u64 ((2 : Int) * w)], born := (0 : Nat) }, { key := AV.int IntKind.u64 (3 : Int), val := AV.agg [AV.int IntKind.i64 (1 : Int), AV.sint IntKind.u64 (a + i), AV.sint IntKind.u64 w3, AV.sint IntKind.u64 ((2 : Int) * w3)], born := (1 : Nat) }] (2 : Nat)), Option.none)])))))))))))))))))) (.stop (Hd.tt) [] ([]))) (.conj (.left (decide (f = f)) (.left (decide (g = g)) (.left (decide (w = w)) (.left (decide ((0 : Int) ≤ (2 : Int) * w ∧ (2 : Int) * w ≤ (18446744073709551615 : Int))) (.fork (decide ((16 : Int) < (2 : Int) * w)) (.left (decide ((0 : Int) ≤ a + i ∧ a + i ≤ (18446744073709551615 : Int))) (.left (decide (a + i = nx)) (.left (decide ((0 : Int) ≤ nx + w ∧ nx + w ≤ (18446744073709551615 : Int))) (.left (decide ((0 : Int) ≤ (2 : Int) * w ∧ (2 : Int) * w ≤ (18446744073709551615 : Int))) (.left (decide ((16 : Int) < (2 : Int) * w)) (.left (decide ((0 : Int) ≤ i + (1 : Int) ∧ i + (1 : Int) ≤ (18446744073709551615 : Int))) (.stop (Hd.again (again' dtT dtG dtM (Sum.inr { i := i, f := f, g := g, w := w, nx := nx, f3 := f3, g3 := g3, w3 := w3, k := k })) [AV.sint IntKind.u64 a, AV.sint IntKind.u8 o, AV.sint IntKind.u8 r, AV.top, AV.top, AV.top, AV.top, AV.ptr (0 : Nat) (0 : Nat), AV.sint IntKind.u64 (nx + w), AV.sint IntKind.u64 (16 : Int), AV.sint IntKind.u64 (i + (1 : Int)), AV.slice (7 : Nat) (0 : Nat) (1 : Nat) (1 : Nat) Bool.false, AV.bool Bool.true, AV.int IntKind.i64 (1 : Int), AV.top, AV.top, AV.top, AV.top, AV.top, AV.top, AV.top, AV.top, AV.top, AV.sint IntKind.u64 i, AV.sint IntKind.u8 r, AV.sint IntKind.u64 r, AV.bool Bool.true, AV.sint IntKind.u64 i, AV.sint IntKind.u64 (i + (1 : Int)), AV.sint IntKind.u64 i, AV.sint IntKind.u8 o, AV.sint IntKind.u64 o, AV.bool Bool.false, AV.bool Bool.false, AV.tuple [], AV.tuple [], AV.tuple [], AV.tuple [], AV.tuple [], AV.tuple [], AV.bool Bool.false, AV.ptr (0 : Nat) (0 : Nat), AV.sint IntKind.u64 a, AV.sint IntKind.u64 i, AV.sint IntKind.u64 (a + i), AV.slice (7 : Nat) (0 : Nat) (1 : Nat) (1 : Nat) Bool.false, AV.int IntKind.i64 (1 : Int), AV.slice (7 : Nat) (0 : Nat) (1 : Nat) (1 : Nat) Bool.false, AV.int IntKind.i64 (1 : Int), AV.bool Bool.false, AV.int IntKind.i64 (0 : Int), AV.int IntKind.i64 (1 : Int), AV.bool Bool.false, AV.bool Bool.false, AV.slice (7 : Nat) (0 : Nat) (1 : Nat) (1 : Nat) Bool.false, AV.int IntKind.i64 (0 : Int), AV.ptr (7 : Nat) (0 : Nat), AV.agg [AV.int IntKind.u64 (7 : Int), AV.int IntKind.i64 (5 : Int)], AV.agg [AV.int IntKind.u64 (7 : Int), AV.int IntKind.i64 (5 : Int)], AV.bool Bool.true, AV.bool Bool.true, AV.bool Bool.true, AV.sint IntKind.u64 a, AV.sint IntKind.u64 i, AV.sint IntKind.u64 (a + i), AV.sint IntKind.u64 nx, AV.bool Bool.true, AV.bool Bool.false, AV.bool Bool.true, AV.sint IntKind.u64 nx, AV.sint IntKind.u64 w, AV.sint IntKind.u64 (nx + w), AV.sint IntKind.u64 w, AV.sint IntKind.u64 ((2 : Int) * w), AV.sint IntKind.u64 (16 : Int), AV.top]) [0, 7, 1] ([(Option.some (Blk.cells (0 : Nat) Option.none [AV.map (1 : Nat)]), Option.none), (Option.some (Blk.cells (7 : Nat) (Option.some (2 : Nat)) [AV.int IntKind.u64 (7 : Int), AV.int IntKind.i64 (5 : Int)]), Option.none), (Option.some (Blk.map (1 : Nat) [{ key := AV.int IntKind.u64 (7 : Int), val := AV.agg [AV.int IntKind.i64 (5 : Int), AV.sint IntKind.u64 (a + i), AV.sint IntKind.u64 w, AV.sint IntKind.u64 (16 : Int)], born := (0 : Nat) }, { key := AV.int IntKind.u64 (3 : Int), val := AV.agg [AV.int IntKind.i64 (1 : Int), AV.sint IntKind.u64 f3, AV.sint IntKind.u64 g3, AV.sint IntKind.u64 w3], born := (1 : Nat) }] (2 : Nat)), Option.none)])))))))) (.left (decide ((0 : Int) ≤ a + i ∧ a + i ≤ (18446744073709551615 : Int))) (.left (decide (a + i = nx)) (.left (decide ((0 : Int) ≤ nx + w ∧ nx + w ≤ (18446744073709551615 : Int))) (.left (decide ((0 : Int) ≤ (2 : Int) * w ∧ (2 : Int) * w ≤ (18446744073709551615 : Int))) (.right (decide ((16 : Int) < (2 : Int) * w)) (.left (decide ((0 : Int) ≤ i + (1 : Int) ∧ i + (1 : Int) ≤ (18446744073709551615 : Int))) (.stop (Hd.again (again' dtT dtG dtM (Sum.inr { i := i, f := f, g := g, w := w, nx := nx, f3 := f3, g3 := g3, w3 := w3, k := k })) [AV.sint IntKind.u64 a, AV.sint IntKind.u8 o, AV.sint IntKind.u8 r, AV.top, AV.top, AV.top, AV.top, AV.ptr (0 : Nat) (0 : Nat), AV.sint IntKind.u64 (nx + w), AV.sint IntKind.u64 ((2 : Int) * w), AV.sint IntKind.u64 (i + (1 : Int)), AV.slice (7 : Nat) (0 : Nat) (1 : Nat) (1 : Nat) Bool.false, AV.bool Bool.true, AV.int IntKind.i64 (1 : Int), AV.top, AV.top, AV.top, AV.top, AV.top, AV.top, AV.top, AV.top, AV.top, AV.sint IntKind.u64 i, AV.sint IntKind.u8 r, AV.sint IntKind.u64 r, AV.bool Bool.true, AV.sint IntKind.u64 i, AV.sint IntKind.u64 (i + (1 : Int)), AV.sint IntKind.u64 i, AV.sint IntKind.u8 o, AV.sint IntKind.u64 o, AV.bool Bool.false, AV.bool Bool.false, AV.tuple [], AV.tuple [], AV.tuple [], AV.tuple [], AV.tuple [], AV.tuple [], AV.bool Bool.false, AV.ptr (0 : Nat) (0 : Nat), AV.sint IntKind.u64 a, AV.sint IntKind.u64 i, AV.sint IntKind.u64 (a + i), AV.slice (7 : Nat) (0 : Nat) (1 : Nat) (1 : Nat) Bool.false, AV.int IntKind.i64 (1 : Int), AV.slice (7 : Nat) (0 : Nat) (1 : Nat) (1 : Nat) Bool.false, AV.int IntKind.i64 (1 : Int), AV.bool Bool.false, AV.int IntKind.i64 (0 : Int), AV.int IntKind.i64 (1 : Int), AV.bool Bool.false, AV.bool Bool.false, AV.slice (7 : Nat) (0 : Nat) (1 : Nat) (1 : Nat) Bool.false, AV.int IntKind.i64 (0 : Int), AV.ptr (7 : Nat) (0 : Nat), AV.agg [AV.int IntKind.u64 (7 : Int), AV.int IntKind.i64 (5 : Int)], AV.agg [AV.int IntKind.u64 (7 : Int), AV.int IntKind.i64 (5 : Int)], AV.bool Bool.true, AV.bool Bool.true, AV.bool Bool.true, AV.sint IntKind.u64 a, AV.sint IntKind.u64 i, AV.sint IntKind.u64 (a + i), AV.sint IntKind.u64 nx, AV.bool Bool.true, AV.bool Bool.false, AV.bool Bool.true, AV.sint IntKind.u64 nx, AV.sint IntKind.u64 w, AV.sint IntKind.u64 (nx + w), AV.sint IntKind.u64 w, AV.sint IntKind.u64 ((2 : Int) * w), AV.sint IntKind.u64 ((2 : Int) * w), AV.top]) [0, 7, 1] ([(Option.some (Blk.cells (0 : Nat) Option.none [AV.map (1 : Nat)]), Option.none), (Option.some (Blk.cells (7 : Nat) (Option.some (2 : Nat)) [AV.int IntKind.u64 (7 : Int), AV.int IntKind.i64 (5 : Int)]), Option.none), (Option.some (Blk.map (1 : Nat) [{ key := AV.int IntKind.u64 (7 : Int), val := AV.agg [AV.int IntKind.i64 (5 : Int), AV.sint IntKind.u64 (a + i), AV.sint IntKind.u64 w, AV.sint IntKind.u64 ((2 : Int) * w)], born := (0 : Nat) }, { key := AV.int IntKind.u64 (3 : Int), val := AV.agg [AV.int IntKind.i64 (1 : Int), AV.sint IntKind.u64 f3, AV.sint IntKind.u64 g3, AV.sint IntKind.u64 w3], born := (1 : Nat) }] (2 : Nat)), Option.none)]))))))))))))) (.stop (Hd.tt) [] ([])))))) (.stop (Hd.tt) [] ([])))) (.conj (.stop (Hd.tt) [] ([])) (.conj (.left (decide (f3 ≤ a + i)) (.left (decide ((0 : Int) ≤ a + i - f3 ∧ a + i - f3 ≤ (18446744073709551615 : Int))) (.fork (decide (g3 ≤ a + i - f3)) (.conj (.left (decide (f3 = f3)) (.left (decide (g3 = g3)) (.left (decide (w3 = w3)) (.left (decide ((0 : Int) ≤ (2 : Int) * w3 ∧ (2 : Int) * w3 ≤ (18446744073709551615 : Int))) (.fork (decide ((16 : Int) < (2 : Int) * w3)) (.left (decide ((0 : Int) ≤ a + i ∧ a + i ≤ (18446744073709551615 : Int))) (.right (decide (a + i = nx)) (.left (decide ((0 : Int) ≤ i + (1 : Int) ∧ i + (1 : Int) ≤ (18446744073709551615 : Int))) (.stop (Hd.again (again' dtT dtG dtM (Sum.inr { i := i, f := f, g := g, w := w, nx := nx, f3 := f3, g3 := g3, w3 := w3, k := k })) [AV.sint IntKind.u64 a, AV.sint IntKind.u8 o, AV.sint IntKind.u8 r, AV.top, AV.top, AV.top, AV.top, AV.ptr (0 : Nat) (0 : Nat), AV.sint IntKind.u64 nx, AV.sint IntKind.u64 w, AV.sint IntKind.u64 (i + (1 : Int)), AV.slice (9 : Nat) (0 : Nat) (1 : Nat) (1 : Nat) Bool.false, AV.bool Bool.false, AV.int IntKind.i64 (1 : Int), AV.top, AV.top, AV.top, AV.top, AV.top, AV.top, AV.top, AV.top, AV.top, AV.sint IntKind.u64 i, AV.sint IntKind.u8 r, AV.sint IntKind.u64 r, AV.bool Bool.true, AV.sint IntKind.u64 i, AV.sint IntKind.u64 (i + (1 : Int)), AV.sint IntKind.u64 i, AV.sint IntKind.u8 o, AV.sint IntKind.u64 o, AV.bool Bool.false, AV.bool Bool.false, AV.tuple [], AV.tuple [], AV.tuple [], AV.tuple [], AV.tuple [], AV.tuple [], AV.bool Bool.false, AV.ptr (0 : Nat) (0 : Nat), AV.sint IntKind.u64 a, AV.sint IntKind.u64 i, AV.sint IntKind.u64 (a + i), AV.slice (9 : Nat) (0 : Nat) (1 : Nat) (1 : Nat) Bool.false, AV.int IntKind.i64 (1 : Int), AV.slice (9 : Nat) (0 : Nat) (1 : Nat) (1 : Nat) Bool.false, AV.int IntKind.i64 (1 : Int), AV.bool Bool.false, AV.int IntKind.i64 (0 : Int), AV.int IntKind.i64 (1 : Int), AV.bool Bool.false, AV.bool Bool.false, AV.slice (9 : Nat) (0 : Nat) (1 : Nat) (1 : Nat) Bool.false, AV.int IntKind.i64 (0 : Int), AV.ptr (9 : Nat) (0 : Nat), AV.agg [AV.int IntKind.u64 (3 : Int), AV.int IntKind.i64 (1 : Int)], AV.agg [AV.int IntKind.u64 (7 : Int), AV.int IntKind.i64 (5 : Int)], AV.bool Bool.false, AV.bool Bool.false, AV.bool Bool.false, AV.sint IntKind.u64 a, AV.sint IntKind.u64 i, AV.sint IntKind.u64 (a + i), AV.sint IntKind.u64 nx, AV.bool Bool.false, AV.bool Bool.false, AV.bool Bool.false, AV.top, AV.top, AV.top, AV.top, AV.top, AV.top, AV.top]) [0, 9, 1] ([(Option.some (Blk.cells (0 : Nat) Option.none [AV.map (1 : Nat)]), Option.none), (Option.some (Blk.cells (9 : Nat) (Option.some (2 : Nat)) [AV.int IntKind.u64 (3 : Int), AV.int IntKind.i64 (1 : Int)]), Option.none), (Option.some (Blk.map (1 : Nat) [{ key := AV.int IntKind.u64 (7 : Int), val := AV.agg [AV.int IntKind.i64 (5 : Int), AV.sint IntKind.u64 f, AV.sint IntKind.u64 g, AV.sint IntKind.u64 w], born := (0 : Nat) }, { key := AV.int IntKind.u64 (3 : Int), val := AV.agg [AV.int IntKind.i64 (1 : Int), AV.sint IntKind.u64 (a + i), AV.sint IntKind.u64 w3, AV.sint IntKind.u64 (16 : Int)], born := (1 : Nat) }] (2 : Nat)), Option.none)]))))) (.left (decide ((0 : Int) ≤ a + i ∧ a + i ≤ (18446744073709551615 : Int))) (.right (decide (a + i = nx)) (.left (decide ((0 : Int) ≤ i + (1 : Int) ∧ i + (1 : Int) ≤ (18446744073709551615 : Int))) (.stop (Hd.again (again' dtT dtG dtM (Sum.inr { i := i, f := f, g := g, w := w, nx := nx, f3 := f3, g3 := g3, w3 := w3, k := k })) [AV.sint IntKind.u64 a, AV.sint IntKind.u8 o, AV.sint IntKind.u8 r, AV.top, AV.top, AV.top, AV.top, AV.ptr (0 : Nat) (0 : Nat), AV.sint IntKind.u64 nx, AV.sint IntKind.u64 w, AV.sint IntKind.u64 (i + (1 : Int)), AV.slice (9 : Nat) (0 : Nat) (1 : Nat) (1 : Nat) Bool.false, AV.bool Bool.false, AV.int IntKind.i64 (1 : Int), AV.top, AV.top, AV.top, AV.top, AV.top, AV.top, AV.top, AV.top, AV.top, AV.sint IntKind.u64 i, AV.sint IntKind.u8 r, AV.sint IntKind.u64 r, AV.bool Bool.true, AV.sint IntKind.u64 i, AV.sint IntKind.u64 (i + (1 : Int)), AV.sint IntKind.u64 i, AV.sint IntKind.u8 o, AV.sint IntKind.u64 o, AV.bool Bool.false, AV.bool Bool.false, AV.tuple [], AV.tuple [], AV.tuple [], AV.tuple [], AV.tuple [], AV.tuple [], AV.bool Bool.false, AV.ptr (0 : Nat) (0 : Nat), AV.sint IntKind.u64 a, AV.sint IntKind.u64 i, AV.sint IntKind.u64 (a + i), AV.slice (9 : Nat) (0 : Nat) (1 : Nat) (1 : Nat) Bool.false, AV.int IntKind.i64 (1 : Int), AV.slice (9 : Nat) (0 : Nat) (1 : Nat) (1 : Nat) Bool.false, AV.int IntKind.i64 (1 : Int), AV.bool Bool.false, AV.int IntKind.i64 (0 : Int), AV.int IntKind.i64 (1 : Int), AV.bool Bool.false, AV.bool Bool.false, AV.slice (9 : Nat) (0 : Nat) (1 : Nat) (1 : Nat) Bool.false, AV.int IntKind.i64 (0 : Int), AV.ptr (9 : Nat) (0 : Nat), AV.agg [AV.int IntKind.u64 (3 : Int), AV.int IntKind.i64 (1 : Int)], AV.agg [AV.int IntKind.u64 (7 : Int), AV.int IntKind.i64 (5 : Int)], AV.bool Bool.false, AV.bool Bool.false, AV.bool Bool.false, AV.sint IntKind.u64 a, AV.sint IntKind.u64 i, AV.sint IntKind.u64 (a + i), AV.sint IntKind.u64 nx, AV.bool Bool.false, AV.bool Bool.false, AV.bool Bool.false, AV.top, AV.top, AV.top, AV.top, AV.top, AV.top, AV.top]) [0, 9, 1] ([(Option.some (Blk.cells (0 : Nat) Option.none [AV.map (1 : Nat)]), Option.none), (Option.some (Blk.cells (9 : Nat) (Option.some (2 : Nat)) [AV.int IntKind.u64 (3 : Int), AV.int IntKind.i64 (1 : Int)]), Option.none), (Option.some (Blk.map (1 : Nat) [{ key := AV.int IntKind.u64 (7 : Int), val := AV.agg [AV.int IntKind.i64 (5 : Int), AV.sint IntKind.u64 f, AV.sint IntKind.u64 g, AV.sint IntKind.u64 w], born := (0 : Nat) }, { key := AV.int IntKind.u64 (3 : Int), val := AV.agg [AV.int IntKind.i64 (1 : Int), AV.sint IntKind.u64 (a + i), AV.sint IntKind.u64 w3, AV.sint IntKind.u64 ((2 : Int) * w3)], born := (1 : Nat) }] (2 : Nat)), Option.none)])))))))))) (.stop (Hd.tt) [] ([]))) (.conj (.left (decide ((0 : Int) ≤ a + i ∧ a + i ≤ (18446744073709551615 : Int))) (.right (decide (a + i = nx)) (.left (decide ((0 : Int) ≤ i + (1 : Int) ∧ i + (1 : Int) ≤ (18446744073709551615 : Int))) (.stop (Hd.again (again' dtT dtG dtM (Sum.inr { i := i, f := f, g := g, w := w, nx := nx, f3 := f3, g3 := g3, w3 := w3, k := k })) [AV.sint IntKind.u64 a, AV.sint IntKind.u8 o, AV.sint IntKind.u8 r, AV.top, AV.top, AV.top, AV.top, AV.ptr (0 : Nat) (0 : Nat), AV.sint IntKind.u64 nx, AV.sint IntKind.u64 w, AV.sint IntKind.u64 (i + (1 : Int)), AV.nilSlice, AV.bool Bool.false, AV.int IntKind.i64 (0 : Int), AV.top, AV.top, AV.top, AV.top, AV.top, AV.top, AV.top, AV.top, AV.top, AV.sint IntKind.u64 i, AV.sint IntKind.u8 r, AV.sint IntKind.u64 r, AV.bool Bool.true, AV.sint IntKind.u64 i, AV.sint IntKind.u64 (i + (1 : Int)), AV.sint IntKind.u64 i, AV.sint IntKind.u8 o, AV.sint IntKind.u64 o, AV.bool Bool.false, AV.bool Bool.false, AV.tuple [], AV.tuple [], AV.tuple [], AV.tuple [], AV.tuple [], AV.tuple [], AV.bool Bool.false, AV.ptr (0 : Nat) (0 : Nat), AV.sint IntKind.u64 a, AV.sint IntKind.u64 i, AV.sint IntKind.u64 (a + i), AV.nilSlice, AV.int IntKind.i64 (0 : Int), AV.nilSlice, AV.int IntKind.i64 (0 : Int), AV.bool Bool.false, AV.top, AV.top, AV.top, AV.top, AV.top, AV.top, AV.top, AV.top, AV.top, AV.top, AV.top, AV.bool Bool.false, AV.sint IntKind.u64 a, AV.sint IntKind.u64 i, AV.sint IntKind.u64 (a + i), AV.sint IntKind.u64 nx, AV.bool Bool.false, AV.bool Bool.false, AV.bool Bool.false, AV.top, AV.top, AV.top, AV.top, AV.top, AV.top, AV.top]) [0, 1] ([(Option.some (Blk.cells (0 : Nat) Option.none [AV.map (1 : Nat)]), Option.none), (Option.some (Blk.map (1 : Nat) [{ key := AV.int IntKind.u64 (7 : Int), val := AV.agg [AV.int IntKind.i64 (5 : Int), AV.sint IntKind.u64 f, AV.sint IntKind.u64 g, AV.sint IntKind.u64 w], born := (0 : Nat) }, { key := AV.int IntKind.u64 (3 : Int), val := AV.agg [AV.int IntKind.i64 (1 : Int), AV.sint IntKind.u64 f3, AV.sint IntKind.u64 g3, AV.sint IntKind.u64 w3], born := (1 : Nat) }] (2 : Nat)), Option.none)]))))) (.stop (Hd.tt) [] ([])))))) (.stop (Hd.tt) [] ([]))))))) (.conj (.left (decide (f3 ≤ a + i)) (.left (decide ((0 : Int) ≤ a + i - f3 ∧ a + i - f3 ≤ (18446744073709551615 : Int))) (.fork (decide (g3 ≤ a + i - f3)) (.conj (.stop (Hd.tt) [] ([])) (.conj (.left (decide (f ≤ a + i)) (.left (decide ((0 : Int) ≤ a + i - f ∧ a + i - f ≤ (18446744073709551615 : Int))) (.fork (decide (g ≤ a + i - f)) (.conj (.left (decide (f3 = f3)) (.left (decide (g3 = g3)) (.left (decide (w3 = w3)) (.left (decide ((0 : Int) ≤ (2 : Int) * w3 ∧ (2 : Int) * w3 ≤ (18446744073709551615 : Int))) (.fork (decide ((16 : Int) < (2 : Int) * w3)) (.left (decide (f = f)) (.left (decide (g = g)) (.left (decide (w = w)) (.left (decide ((0 : Int) ≤ (2 : Int) * w ∧ (2 : Int) * w ≤ (18446744073709551615 : Int))) (.fork (decide ((16 : Int) < (2 : Int) * w)) (.left (decide ((0 : Int) ≤ a + i ∧ a + i ≤ (18446744073709551615 : Int))) (.left (decide (a + i = nx)) (.left (decide ((0 : Int) ≤ nx + w ∧ nx + w ≤ (18446744073709551615 : Int))) (.left (decide ((0 : Int) ≤ (2 : Int) * w ∧ (2 : Int) * w ≤ (18446744073709551615 : Int))) (.left (decide ((16 : Int) < (2 : Int) * w)) (.left (decide ((0 : Int) ≤ i + (1 : Int) ∧ i + (1 : Int) ≤ (18446744073709551615 : Int))) (.stop (Hd.again (again' dtT dtG dtM (Sum.inr { i := i, f := f, g := g, w := w, nx := nx, f3 := f3, g3 := g3, w3 := w3, k := k })) [AV.sint IntKind.u64 a, AV.sint IntKind.u8 o, AV.sint IntKind.u8 r, AV.top, AV.top, AV.top, AV.top, AV.ptr (0 : Nat) (0 : Nat), AV.sint IntKind.u64 (nx + w), AV.sint IntKind.u64 (16 : Int), AV.sint IntKind.u64 (i + (1 : Int)), AV.slice (11 : Nat) (0 : Nat) (2 : Nat) (2 : Nat) Bool.false, AV.bool Bool.true, AV.int IntKind.i64 (2 : Int), AV.top, AV.top, AV.top, AV.top, AV.top, AV.top, AV.top, AV.top, AV.top, AV.sint IntKind.u64 i, AV.sint IntKind.u8 r, AV.sint IntKind.u64 r, AV.bool Bool.true, AV.sint IntKind.u64 i, AV.sint IntKind.u64 (i + (1 : Int)), AV.sint IntKind.u64 i, AV.sint IntKind.u8 o, AV.sint IntKind.u64 o, AV.bool Bool.false, AV.bool Bool.false, AV.tuple [], AV.tuple [], AV.tuple [], AV.tuple [], AV.tuple [], AV.tuple [], AV.bool Bool.false, AV.ptr (0 : Nat) (0 : Nat), AV.sint IntKind.u64 a, AV.sint IntKind.u64 i, AV.sint IntKind.u64 (a + i), AV.slice (11 : Nat) (0 : Nat) (2 : Nat) (2 : Nat) Bool.false, AV.int IntKind.i64 (2 : Int), AV.slice (11 : Nat) (0 : Nat) (2 : Nat) (2 : Nat) Bool.false, AV.int IntKind.i64 (2 : Int), AV.bool Bool.false, AV.int IntKind.i64 (1 : Int), AV.int IntKind.i64 (2 : Int), AV.bool Bool.false, AV.bool Bool.false, AV.slice (11 : Nat) (0 : Nat) (2 : Nat) (2 : Nat) Bool.false, AV.int IntKind.i64 (1 : Int), AV.ptr (11 : Nat) (2 : Nat), AV.agg [AV.int IntKind.u64 (7 : Int), AV.int IntKind.i64 (5 : Int)], AV.agg [AV.int IntKind.u64 (7 : Int), AV.int IntKind.i64 (5 : Int)], AV.bool Bool.true, AV.bool Bool.true, AV.bool Bool.true, AV.sint IntKind.u64 a, AV.sint IntKind.u64 i, AV.sint IntKind.u64 (a + i), AV.sint IntKind.u64 nx, AV.bool Bool.true, AV.bool Bool.false, AV.bool Bool.true, AV.sint IntKind.u64 nx, AV.sint IntKind.u64 w, AV.sint IntKind.u64 (nx + w), AV.sint IntKind.u64 w, AV.sint IntKind.u64 ((2 : Int) * w), AV.sint IntKind.u64 (16 : Int), AV.top]) [0, 11, 1] ([(Option.some (Blk.cells (0 : Nat) Option.none [AV.map (1 : Nat)]), Option.none), (Option.some (Blk.cells (7 : Nat) (Option.some (2 : Nat)) [AV.int IntKind.u64 (3 : Int), AV.int IntKind.i64 (1 : Int), AV.int IntKind.u64 (7 : Int), AV.int IntKind.i64 (5 : Int)]), Option.none), (Option.some (Blk.map (1 : Nat) [{ key := AV.int IntKind.u64 (7 : Int), val := AV.agg [AV.int IntKind.i64 (5 : Int), AV.sint IntKind.u64 (a + i), AV.sint IntKind.u64 w, AV.sint IntKind.u64 (16 : Int)], born := (0 : Nat) }, { key := AV.int IntKind.u64 (3 : Int), val := AV.agg [AV.int IntKind.i64 (1 : Int), AV.sint IntKind.u64 (a + i), AV.sint IntKind.u64 w3, AV.sint IntKind.u64 (16 : Int)], born := (1 : Nat) }] (2 : Nat)), Option.none)])))))))) (.left (decide ((0 : Int) ≤ a + i ∧ a + i ≤ (18446744073709551615 : Int))) (.left (decide (a + i = nx)) (.left (decide ((0 : Int) ≤ nx + w ∧ nx + w ≤ (18446744073709551615 : Int))) (.left (decide ((0 : Int) ≤ (2 : Int) * w ∧ (2 : Int) * w ≤ (18446744073709551615 : Int))) (.right (decide ((16 : Int) < (2 : Int) * w)) (.left (decide ((0 : Int) ≤ i + (1 : Int) ∧ i + (1 : Int) ≤ (18446744073709551615 : Int))) (.stop (Hd.again (again' dtT dtG dtM (Sum.inr { i := i, f := f, g := g, w := w, nx := nx, f3 := f3, g3 := g3, w3 := w3, k := k })) [AV.sint IntKind.u64 a, AV.sint IntKind.u8 o, AV.sint IntKind.u8 r, AV.top, AV.top, AV.top, AV.top, AV.ptr (0 : Nat) (0 : Nat), AV.sint IntKind.u64 (nx + w), AV.sint IntKind.u64 ((2 : Int) * w), AV.sint IntKind.u64 (i + (1 : Int)), AV.slice (11 : Nat) (0 : Nat) (2 : Nat) (2 : Nat) Bool.false, AV.bool Bool.true, AV.int IntKind.i64 (2 : Int), AV.top, AV.top, AV.top, AV.top, AV.top, AV.top, AV.top, AV.top, AV.top, AV.sint IntKind.u64 i, AV.sint IntKind.u8 r, AV.sint IntKind.u64 r, AV.bool Bool.true, AV.sint IntKind.u64 i, AV.sint IntKind.u64 (i + (1 : Int)), AV.sint IntKind.u64 i, AV.sint IntKind.u8 o, AV.sint IntKind.u64 o, AV.bool Bool.false, AV.bool Bool.false, AV.tuple [], AV.tuple [], AV.tuple [], AV.tuple [], AV.tuple [], AV.tuple [], AV.bool Bool.false, AV.ptr (0 : Nat) (0 : Nat), AV.sint IntKind.u64 a, AV.sint IntKind.u64 i, AV.sint IntKind.u64 (a + i), AV.slice (11 : Nat) (0 : Nat) (2 : Nat) (2 : Nat) Bool.false, AV.int IntKind.i64 (2 : Int), AV.slice (11 : Nat) (0 : Nat) (2 : Nat) (2 : Nat) Bool.false, AV.int IntKind.i64 (2 : Int), AV.bool Bool.false, AV.int IntKind.i64 (1 : Int), AV.int IntKind.i64 (2 : Int), AV.bool Bool.false, AV.bool Bool.false, AV.slice (11 : Nat) (0 : Nat) (2 : Nat) (2 : Nat) Bool.false, AV.int IntKind.i64 (1 : Int), AV.ptr (11 : Nat) (2 : Nat), AV.agg [AV.int IntKind.u64 (7 : Int), AV.int IntKind.i64 (5 : Int)], AV.agg [AV.int IntKind.u64 (7 : Int), AV.int IntKind.i64 (5 : Int)], AV.bool Bool.true, AV.bool Bool.true, AV.bool Bool.true, AV.sint IntKind.u64 a, AV.sint IntKind.u64 i, AV.sint IntKind.u64 (a + i), AV.sint IntKind.u64 nx, AV.bool Bool.true, AV.bool Bool.false, AV.bool Bool.true, AV.sint IntKind.u64 nx, AV.sint IntKind.u64 w, AV.sint IntKind.u64 (nx + w), AV.sint IntKind.u64 w, AV.sint IntKind.u64 ((2 : Int) * w), AV.sint IntKind.u64 ((2 : Int) * w), AV.top]) [0, 11, 1] ([(Option.some (Blk.cells (0 : Nat) Option.none [AV.map (1 : Nat)]), Option.none), (Option.some (Blk.cells (7 : Nat) (Option.some (2 : Nat)) [AV.int IntKind.u64 (3 : Int), AV.int IntKind.i64 (1 : Int), AV.int IntKind.u64 (7 : Int), AV.int IntKind.i64 (5 : Int)]), Option.none), (Option.some (Blk.map (1 : Nat) [{ key := AV.int IntKind.u64 (7 : Int), val := AV.agg [AV.int IntKind.i64 (5 : Int), AV.sint IntKind.u64 (a + i), AV.sint IntKind.u64 w, AV.sint IntKind.u64 ((2 : Int) * w)], born := (0 : Nat) }, { key := AV.int IntKind.u64 (3 : Int), val := AV.agg [AV.int IntKind.i64 (1 : Int), AV.sint IntKind.u64 (a + i), AV.sint IntKind.u64 w3, AV.sint IntKind.u64 (16 : Int)], born := (1 : Nat) }] (2 : Nat)), Option.none)]))))))))))))) (.left (decide (f = f)) (.left (decide (g = g)) (.left (decide (w = w)) (.left (decide ((0 : Int) ≤ (2 : Int) * w ∧ (2 : Int) * w ≤ (18446744073709551615 : Int))) (.fork (decide ((16 : Int) < (2 : Int) * w)) (.left (decide ((0 : Int) ≤ a + i ∧ a + i ≤ (18446744073709551615 : Int))) (.left (decide (a + i = nx)) (.left (decide ((0 : Int) ≤ nx + w ∧ nx + w ≤ (18446744073709551615 : Int))) (.left (decide ((0 : Int) ≤ (2 : Int) * w ∧ (2 : Int) * w ≤ (18446744073709551615 : Int))) (.left (decide ((16 : Int) < (2 : Int) * w)) (.left (decide ((0 : Int) ≤ i + (1 : Int) ∧ i + (1 : Int) ≤ (18446744073709551615 : Int))) (.stop (Hd.again (again' dtT dtG dtM (Sum.inr { i := i, f := f, g := g, w := w, nx := nx, f3 := f3, g3 := g3, w3 := w3, k := k })) [AV.sint IntKind.u64 a, AV.sint IntKind.u8 o, AV.sint IntKind.u8 r, AV.top, AV.top, AV.top, AV.top, AV.ptr (0 : Nat) (0 : Nat), AV.sint IntKind.u64 (nx + w), AV.sint IntKind.u64 (16 : Int), AV.sint IntKind.u64 (i + (1 : Int)), AV.slice (11 : Nat) (0 : Nat) (2 : Nat) (2 : Nat) Bool.false, AV.bool Bool.true, AV.int IntKind.i64 (2 : Int), AV.top, AV.top, AV.top, AV.top, AV.top, AV.top, AV.top, AV.top, AV.top, AV.sint IntKind.u64 i, AV.sint IntKind.u8 r, AV.sint IntKind.u64 r, AV.bool Bool.true, AV.sint IntKind.u64 i, AV.sint IntKind.u64 (i + (1 : Int)), AV.sint IntKind.u64 i, AV.sint IntKind.u8 o, AV.sint IntKind.u64 o, AV.bool Bool.false, AV.bool Bool.false, AV.tuple [], AV.tuple [], AV.tuple [], AV.tuple [], AV.tuple [], AV.tuple [], AV.bool Bool.false, AV.ptr (0 : Nat) (0 : Nat), AV.sint IntKind.u64 a, AV.sint IntKind.u64 i, AV.sint IntKind.u64 (a + i), AV.slice (11 : Nat) (0 : Nat) (2 : Nat) (2 : Nat) Bool.false, AV.int IntKind.i64 (2 : Int), AV.slice (11 : Nat) (0 : Nat) (2 : Nat) (2 : Nat) Bool.false, AV.int IntKind.i64 (2 : Int), AV.bool Bool.false, AV.int IntKind.i64 (1 : Int), AV.int IntKind.i64 (2 : Int), AV.bool Bool.false, AV.bool Bool.false, AV.slice (11 : Nat) (0 : Nat) (2 : Nat) (2 : Nat) Bool.false, AV.int IntKind.i64 (1 : Int), AV.ptr (11 : Nat) (2 : Nat), AV.agg [AV.int IntKind.u64 (7 : Int), AV.int IntKind.i64 (5 : Int)], AV.agg [AV.int IntKind.u64 (7 : Int), AV.int IntKind.i64 (5 : Int)], AV.bool Bool.true, AV.bool Bool.true, AV.bool Bool.true, AV.sint IntKind.u64 a, AV.sint IntKind.u64 i, AV.sint IntKind.u64 (a + i), AV.sint IntKind.u64 nx, AV.bool Bool.true, AV.bool Bool.false, AV.bool Bool.true, AV.sint IntKind.u64 nx, AV.sint IntKind.u64 w, AV.sint IntKind.u64 (nx + w), AV.sint IntKind.u64 w, AV.sint IntKind.u64 ((2 : Int) * w), AV.sint IntKind.u64 (16 : Int), AV.top]) [0, 11, 1] ([(Option.some (Blk.cells (0 : Nat) Option.none [AV.map (1 : Nat)]), Option.none), (Option.some (Blk.cells (7 : Nat) (Option.some (2 : Nat)) [AV.int IntKind.u64 (3 : Int), AV.int IntKind.i64 (1 : Int), AV.int IntKind.u64 (7 : Int), AV.int IntKind.i64 (5 : Int)]), Option.none), (Option.some (Blk.map (1 : Nat) [{ key := AV.int IntKind.u64 (7 : Int), val := AV.agg [AV.int IntKind.i64 (5 : Int), AV.sint IntKind.u64 (a + i), AV.sint IntKind.u64 w, AV.sint IntKind.u64 (16 : Int)], born := (0 : Nat) }, { key := AV.int IntKind.u64 (3 : Int), val := AV.agg [AV.int IntKind.i64 (1 : Int), AV.sint IntKind.u64 (a + i), AV.sint IntKind.u64 w3, AV.sint IntKind.u64 ((2 : Int) * w3)], born := (1 : Nat) }] (2 : Nat)), Option.none)])))))))) (.left (decide ((0 : Int) ≤ a + i ∧ a + i ≤ (18446744073709551615 : Int))) (.left (decide (a + i = nx)) (.left (decide ((0 : Int) ≤ nx + w ∧ nx + w ≤ (18446744073709551615 : Int))) (.left (decide ((0 : Int) ≤ (2 : Int) * w ∧ (2 : Int) * w ≤ (18446744073709551615 : Int))) (.right (decide ((16 : Int) < (2 : Int) * w)) (.left (decide ((0 : Int) ≤ i + (1 : Int) ∧ i + (1 : Int) ≤ (18446744073709551615 : Int))) (.stop (Hd.again (again' dtT dtG dtM (Sum.inr { i := i, f := f, g := g, w := w, nx := nx, f3 := f3, g3 := g3, w3 := w3, k := k })) [AV.sint IntKind.u64 a, AV.sint IntKind.u8 o, AV.sint IntKind.u8 r, AV.top, AV.top, AV.top, AV.top, AV.ptr (0 : Nat) (0 : Nat), AV.sint IntKind.u64 (nx + w), AV.sint IntKind.u64 ((2 : Int) * w), AV.sint IntKind.u64 (i + (1 : Int)), AV.slice (11 : Nat) (0 : Nat) (2 : Nat) (2 : Nat) Bool.false, AV.bool Bool.true, AV.int IntKind.i64 (2 : Int), AV.top, AV.top, AV.top, AV.top, AV.top, AV.top, AV.top, AV.top, AV.top, AV.sint IntKind.u64 i, AV.sint IntKind.u8 r, AV.sint IntKind.u64 r, AV.bool Bool.true, AV.sint IntKind.u64 i, AV.sint IntKind.u64 (i + (1 : Int)), AV.sint IntKind.u64 i, AV.sint IntKind.u8 o, AV.sint IntKind.u64 o, AV.bool Bool.false, AV.bool Bool.false, AV.tuple [], AV.tuple [], AV.tuple [], AV.tuple [], AV.tuple [], AV.tuple [], AV.bool Bool.false, AV.ptr (0 : Nat) (0 : Nat), AV.sint IntKind.u64 a, AV.sint IntKind.u64 i, AV.sint IntKind.u64 (a + i), AV.slice (11 : Nat) (0 : Nat) (2 : Nat) (2 : Nat) Bool.false, AV.int IntKind.i64 (2 : Int), AV.slice (11 : Nat) (0 : Nat) (2 : Nat) (2 : Nat) Bool.false, AV.int IntKind.i64 (2 : Int), AV.bool Bool.false, AV.int IntKind.i64 (1 : Int), AV.int IntKind.i64 (2 : Int), AV.bool Bool.false, AV.bool Bool.false, AV.slice (11 : Nat) (0 : Nat) (2 : Nat) (2 : Nat) Bool.false, AV.int IntKind.i64 (1 : Int), AV.ptr (11 : Nat) (2 : Nat), AV.agg [AV.int IntKind.u64 (7 : Int), AV.int IntKind.i64 (5 : Int)], AV.agg [AV.int IntKind.u64 (7 : Int), AV.int IntKind.i64 (5 : Int)], AV.bool Bool.true, AV.bool Bool.true, AV.bool Bool.true, AV.sint IntKind.u64 a, AV.sint IntKind.u64 i, AV.sint IntKind.u64 (a + i), AV.sint IntKind.u64 nx, AV.bool Bool.true, AV.bool Bool.false, AV.bool Bool.true, AV.sint IntKind.u64 nx, AV.sint IntKind.u64 w, AV.sint IntKind.u64 (nx + w), AV.sint IntKind.u64 w, AV.sint IntKind.u64 ((2 : Int) * w), AV.sint IntKind.u64 ((2 : Int) * w), AV.top]) [0, 11, 1] ([(Option.some (Blk.cells (0 : Nat) Option.none [AV.map (1 : Nat)]), Option.none), (Option.some (Blk.cells (7 : Nat) (Option.some (2 : Nat)) [AV.int IntKind.u64 (3 : Int), AV.int IntKind.i64 (1 : Int), AV.int IntKind.u64 (7 : Int), AV.int IntKind.i64 (5 : Int)]), Option.none), (Option.some (Blk.map (1 : Nat) [{ key := AV.int IntKind.u64 (7 : Int), val := AV.agg [AV.int IntKind.i64 (5 : Int), AV.sint IntKind.u64 (a + i), AV.sint IntKind.u64 w, AV.sint IntKind.u64 ((2 : Int) * w)], born := (0 : Nat) }, { key := AV.int IntKind.u64 (3 : Int), val := AV.agg [AV.int IntKind.i64 (1 : Int), AV.sint IntKind.u64 (a + i), AV.sint IntKind.u64 w3, AV.sint IntKind.u64 ((2 : Int) * w3)], born := (1 : Nat) }] (2 : Nat)), Option.none)])))))))))))))))))) (.stop (Hd.tt) [] ([]))) (.conj (.left (decide (f3 = f3)) (.left (decide (g3 = g3)) (.left (decide (w3 = w3)) (.left (decide ((0 : Int) ≤ (2 : Int) * w3 ∧ (2 : Int) * w3 ≤ (18446744073709551615 : Int))) (.fork (decide ((16 : Int) < (2 : Int) * w3)) (.left (decide ((0 : Int) ≤ a + i ∧ a + i ≤ (18446744073709551615 : Int))) (.right (decide (a + i = nx)) (.left (decide ((0 : Int) ≤ i + (1 : Int) ∧ i + (1 : Int) ≤ (18446744073709551615 : Int))) (.stop (Hd.again (again' dtT dtG dtM (Sum.inr { i := i, f := f, g := g, w := w, nx := nx, f3 := f3, g3 := g3, w3 := w3, k := k })) [AV.sint IntKind.u64 a, AV.sint IntKind.u8 o, AV.sint IntKind.u8 r, AV.top, AV.top, AV.top, AV.top, AV.ptr (0 : Nat) (0 : Nat), AV.sint IntKind.u64 nx, AV.sint IntKind.u64 w, AV.sint IntKind.u64 (i + (1 : Int)), AV.slice (7 : Nat) (0 : Nat) (1 : Nat) (1 : Nat) Bool.false, AV.bool Bool.false, AV.int IntKind.i64 (1 : Int), AV.top, AV.top, AV.top, AV.top, AV.top, AV.top, AV.top, AV.top, AV.top, AV.sint IntKind.u64 i, AV.sint IntKind.u8 r, AV.sint IntKind.u64 r, AV.bool Bool.true, AV.sint IntKind.u64 i, AV.sint IntKind.u64 (i + (1 : Int)), AV.sint IntKind.u64 i, AV.sint IntKind.u8 o, AV.sint IntKind.u64 o, AV.bool Bool.false, AV.bool Bool.false, AV.tuple [], AV.tuple [], AV.tuple [], AV.tuple [], AV.tuple [], AV.tuple [], AV.bool Bool.false, AV.ptr (0 : Nat) (0 : Nat), AV.sint IntKind.u64 a, AV.sint IntKind.u64 i, AV.sint IntKind.u64 (a + i), AV.slice (7 : Nat) (0 : Nat) (1 : Nat) (1 : Nat) Bool.false, AV.int IntKind.i64 (1 : Int), AV.slice (7 : Nat) (0 : Nat) (1 : Nat) (1 : Nat) Bool.false, AV.int IntKind.i64 (1 : Int), AV.bool Bool.false, AV.int IntKind.i64 (0 : Int), AV.int IntKind.i64 (1 : Int), AV.bool Bool.false, AV.bool Bool.false, AV.slice (7 : Nat) (0 : Nat) (1 : Nat) (1 : Nat) Bool.false, AV.int IntKind.i64 (0 : Int), AV.ptr (7 : Nat) (0 : Nat), AV.agg [AV.int IntKind.u64 (3 : Int), AV.int IntKind.i64 (1 : Int)], AV.agg [AV.int IntKind.u64 (7 : Int), AV.int IntKind.i64 (5 : Int)], AV.bool Bool.false, AV.bool Bool.false, AV.bool Bool.false, AV.sint IntKind.u64 a, AV.sint IntKind.u64 i, AV.sint IntKind.u64 (a + i), AV.sint IntKind.u64 nx, AV.bool Bool.false, AV.bool Bool.false, AV.bool Bool.false, AV.top, AV.top, AV.top, AV.top, AV.top, AV.top, AV.top]) [0, 7, 1] ([(Option.some (Blk.cells (0 : Nat) Option.none [AV.map (1 : Nat)]), Option.none), (Option.some (Blk.cells (7 : Nat) (Option.some (2 : Nat)) [AV.int IntKind.u64 (3 : Int), AV.int IntKind.i64 (1 : Int)]), Option.none), (Option.some (Blk.map (1 : Nat) [{ key := AV.int IntKind.u64 (7 : Int), val := AV.agg [AV.int IntKind.i64 (5 : Int), AV.sint IntKind.u64 f, AV.sint IntKind.u64 g, AV.sint IntKind.u64 w], born := (0 : Nat) }, { key := AV.int IntKind.u64 (3 : Int), val := AV.agg [AV.int IntKind.i64 (1 : Int), AV.sint IntKind.u64 (a + i), AV.sint IntKind.u64 w3, AV.sint IntKind.u64 (16 : Int)], born := (1 : Nat) }] (2 : Nat)), Option.none)]))))) (.left (decide ((0 : Int) ≤ a + i ∧ a + i ≤ (18446744073709551615 : Int))) (.right (decide (a + i = nx)) (.left (decide ((0 : Int) ≤ i + (1 : Int) ∧ i + (1 : Int) ≤ (18446744073709551615 : Int))) (.stop (Hd.again (again' dtT dtG dtM (Sum.inr { i := i, f := f, g := g, w := w, nx := nx, f3 := f3, g3 := g3, w3 := w3, k := k })) [AV.sint IntKind.u64 a, AV.sint IntKind.u8 o, AV.sint IntKind.u8 r, AV.top, AV.top, AV.top, AV.top, AV.ptr (0 : Nat) (0 : Nat), AV.sint IntKind.u64 nx, AV.sint IntKind.u64 w, AV.sint IntKind.u64 (i + (1 : Int)), AV.slice (7 : Nat) (0 : Nat) (1 : Nat) (1 : Nat) Bool.false, AV.bool Bool.false, AV.int IntKind.i64 (1 : Int), AV.top, AV.top, AV.top, AV.top, AV.top, AV.top, AV.top, AV.top, AV.top, AV.sint IntKind.u64 i, AV.sint IntKind.u8 r, AV.sint IntKind.u64 r, AV.bool Bool.true, AV.sint IntKind.u64 i, AV.sint IntKind.u64 (i + (1 : Int)), AV.sint IntKind.u64 i, AV.sint IntKind.u8 o, AV.sint IntKind.u64 o, AV.bool Bool.false, AV.bool Bool.false, AV.tuple [], AV.tuple [], AV.tuple [], AV.tuple [], AV.tuple [], AV.tuple [], AV.bool Bool.false, AV.ptr (0 : Nat) (0 : Nat), AV.sint IntKind.u64 a, AV.sint IntKind.u64 i, AV.sint IntKind.u64 (a + i), AV.slice (7 : Nat) (0 : Nat) (1 : Nat) (1 : Nat) Bool.false, AV.int IntKind.i64 (1 : Int), AV.slice (7 : Nat) (0 : Nat) (1 : Nat) (1 : Nat) Bool.false, AV.int IntKind.i64 (1 : Int), AV.bool Bool.false, AV.int IntKind.i64 (0 : Int), AV.int IntKind.i64 (1 : Int), AV.bool Bool.false, AV.bool Bool.false, AV.slice (7 : Nat) (0 : Nat) (1 : Nat) (1 : Nat) Bool.false, AV.int IntKind.i64 (0 : Int), AV.ptr (7 : Nat) (0 : Nat), AV.agg [AV.int IntKind.u64 (3 : Int), AV.int IntKind.i64 (1 : Int)], AV.agg [AV.int IntKind.u64 (7 : Int), AV.int IntKind.i64 (5 : Int)], AV.bool Bool.false, AV.bool Bool.false, AV.bool Bool.false, AV.sint IntKind.u64 a, AV.sint IntKind.u64 i, AV.sint IntKind.u64 (a + i), AV.sint IntKind.u64 nx, AV.bool Bool.false, AV.bool Bool.false, AV.bool Bool.false, AV.top, AV.top, AV.top, AV.top, AV.top, AV.top, AV.top]) [0, 7, 1] ([(Option.some (Blk.cells (0 : Nat) Option.none [AV.map (1 : Nat)]), Option.none), (Option.some (Blk.cells (7 : Nat) (Option.some (2 : Nat)) [AV.int IntKind.u64 (3 : Int), AV.int IntKind.i64 (1 : Int)]), Option.none), (Option.some (Blk.map (1 : Nat) [{ key := AV.int IntKind.u64 (7 : Int), val := AV.agg [AV.int IntKind.i64 (5 : Int), AV.sint IntKind.u64 f, AV.sint IntKind.u64 g, AV.sint IntKind.u64 w], born := (0 : Nat) }, { key := AV.int IntKind.u64 (3 : Int), val := AV.agg [AV.int IntKind.i64 (1 : Int), AV.sint IntKind.u64 (a + i), AV.sint IntKind.u64 w3, AV.sint IntKind.u64 ((2 : Int) * w3)], born := (1 : Nat) }] (2 : Nat)), Option.none)])))))))))) (.stop (Hd.tt) [] ([])))))) (.stop (Hd.tt) [] ([])))) (.conj (.stop (Hd.tt) [] ([])) (.conj (.left (decide (f ≤ a + i)) (.left (decide ((0 : Int) ≤ a + i - f ∧ a + i - f ≤ (18446744073709551615 : Int))) (.fork (decide (g ≤ a + i - f)) (.conj (.left (decide (f = f)) (.left (decide (g = g)) (.left (decide (w = w)) (.left (decide ((0 : Int) ≤ (2 : Int) * w ∧ (2 : Int) * w ≤ (18446744073709551615 : Int))) (.fork (decide ((16 : Int) < (2 : Int) * w)) (.left (decide ((0 : Int) ≤ a + i ∧ a + i ≤ (18446744073709551615 : Int))) (.left (decide (a + i = nx)) (.left (decide ((0 : Int) ≤ nx + w ∧ nx + w ≤ (18446744073709551615 : Int))) (.left (decide ((0 : Int) ≤ (2 : Int) * w ∧ (2 : Int) * w ≤ (18446744073709551615 : Int))) (.left (decide ((16 : Int) < (2 : Int) * w)) (.left (decide ((0 : Int) ≤ i + (1 : Int) ∧ i + (1 : Int) ≤ (18446744073709551615 : Int))) (.stop (Hd.again (again' dtT dtG dtM (Sum.inr { i := i, f := f, g := g, w := w, nx := nx, f3 := f3, g3 := g3, w3 := w3, k := k })) [AV.sint IntKind.u64 a, AV.sint IntKind.u8 o, AV.sint IntKind.u8 r, AV.top, AV.top, AV.top, AV.top, AV.ptr (0 : Nat) (0 : Nat), AV.sint IntKind.u64 (nx + w), AV.sint IntKind.u64 (16 : Int), AV.sint IntKind.u64 (i + (1 : Int)), AV.slice (9 : Nat) (0 : Nat) (1 : Nat) (1 : Nat) Bool.false, AV.bool Bool.true, AV.int IntKind.i64 (1 : Int), AV.top, AV.top, AV.top, AV.top, AV.top, AV.top, AV.top, AV.top, AV.top, AV.sint IntKind.u64 i, AV.sint IntKind.u8 r, AV.sint IntKind.u64 r, AV.bool Bool.true, AV.sint IntKind.u64 i, AV.sint IntKind.u64 (i + (1 : Int)), AV.sint IntKind.u64 i, AV.sint IntKind.u8 o, AV.sint IntKind.u64 o, AV.bool Bool.false, AV.bool Bool.false, AV.tuple [], AV.tuple [], AV.tuple [], AV.tuple [], AV.tuple [], AV.tuple [], AV.bool Bool.false, AV.ptr (0 : Nat) (0 : Nat), AV.sint IntKind.u64 a, AV.sint IntKind.u64 i, AV.sint IntKind.u64 (a + i), AV.slice (9 : Nat) (0 : Nat) (1 : Nat) (1 : Nat) Bool.false, AV.int IntKind.i64 (1 : Int), AV.slice (9 : Nat) (0 : Nat) (1 : Nat) (1 : Nat) Bool.false, AV.int IntKind.i64 (1 : Int), AV.bool Bool.false, AV.int IntKind.i64 (0 : Int), AV.int IntKind.i64 (1 : Int), AV.bool Bool.false, AV.bool Bool.false, AV.slice (9 : Nat) (0 : Nat) (1 : Nat) (1 : Nat) Bool.false, AV.int IntKind.i64 (0 : Int), AV.ptr (9 : Nat) (0 : Nat), AV.agg [AV.int IntKind.u64 (7 : Int), AV.int IntKind.i64 (5 : Int)], AV.agg [AV.int IntKind.u64 (7 : Int), AV.int IntKind.i64 (5 : Int)], AV.bool Bool.true, AV.bool Bool.true, AV.bool Bool.true, AV.sint IntKind.u64 a, AV.sint IntKind.u64 i, AV.sint IntKind.u64 (a + i), AV.sint IntKind.u64 nx, AV.bool Bool.true, AV.bool Bool.false, AV.bool Bool.true, AV.sint IntKind.u64 nx, AV.sint IntKind.u64 w, AV.sint IntKind.u64 (nx + w), AV.sint IntKind.u64 w, AV.sint IntKind.u64 ((2 : Int) * w), AV.sint IntKind.u64 (16 : Int), AV.top]) [0, 9, 1] ([(Option.some (Blk.cells (0 : Nat) Option.none [AV.map (1 : Nat)]), Option.none), (Option.some (Blk.cells (9 : Nat) (Option.some (2 : Nat)) [AV.int IntKind.u64 (7 : Int), AV.int IntKind.i64 (5 : Int)]), Option.none), (Option.some (Blk.map (1 : Nat) [{ key := AV.int IntKind.u64 (7 : Int), val := AV.agg [AV.int IntKind.i64 (5 : Int), AV.sint IntKind.u64 (a + i), AV.sint IntKind.u64 w, AV.sint IntKind.u64 (16 : Int)], born := (0 : Nat) }, { key := AV.int IntKind.u64 (3 : Int), val := AV.agg [AV.int IntKind.i64 (1 : Int), AV.sint IntKind.u64 f3, AV.sint IntKind.u64 g3, AV.sint IntKind.u64 w3], born := (1 : Nat) }] (2 : Nat)), Option.none)])))))))) (.left (decide ((0 : Int) ≤ a + i ∧ a + i ≤ (18446744073709551615 : Int))) (.left (decide (a + i = nx)) (.left (decide ((0 : Int) ≤ nx + w ∧ nx + w ≤ (18446744073709551615 : Int))) (.left (decide ((0 : Int) ≤ (2 : Int) * w ∧ (2 : Int) * w ≤ (18446744073709551615 : Int))) (.right (decide ((16 : Int) < (2 : Int) * w)) (.left (decide ((0 : Int) ≤ i + (1 : Int) ∧ i + (1 : Int) ≤ (18446744073709551615 : Int))) (.stop (Hd.again (again' dtT dtG dtM (Sum.inr { i := i, f := f, g := g, w := w, nx := nx, f3 := f3, g3 := g3, w3 := w3, k := k })) [AV.sint IntKind.u64 a, AV.sint IntKind.u8 o, AV.sint IntKind.u8 r, AV.top, AV.top, AV.top, AV.top, AV.ptr (0 : Nat) (0 : Nat), AV.sint IntKind.u64 (nx + w), AV.sint IntKind.u64 ((2 : Int) * w), AV.sint IntKind.u64 (i + (1 : Int)), AV.slice (9 : Nat) (0 : Nat) (1 : Nat) (1 : Nat) Bool.false, AV.bool Bool.true, AV.int IntKind.i64 (1 : Int), AV.top, AV.top, AV.top, AV.top, AV.top, AV.top, AV.top, AV.top, AV.top, AV.sint IntKind.u64 i, AV.sint IntKind.u8 r, AV.sint IntKind.u64 r, AV.bool Bool.true, AV.sint IntKind.u64 i, AV.sint IntKind.u64 (i + (1 : Int)), AV.sint IntKind.u64 i, AV.sint IntKind.u8 o, AV.sint IntKind.u64 o, AV.bool Bool.false, AV.bool Bool.false, AV.tuple [], AV.tuple [], AV.tuple [], AV.tuple [], AV.tuple [], AV.tuple [], AV.bool Bool.false, AV.ptr (0 : Nat) (0 : Nat), AV.sint IntKind.u64 a, AV.sint IntKind.u64 i, AV.sint IntKind.u64 (a + i), AV.slice (9 : Nat) (0 : Nat) (1 : Nat) (1 : Nat) Bool.false, AV.int IntKind.i64 (1 : Int), AV.slice (9 : Nat) (0 : Nat) (1 : Nat) (1 : Nat) Bool.false, AV.int IntKind.i64 (1 : Int), AV.bool Bool.false, AV.int IntKind.i64 (0 : Int), AV.int IntKind.i64 (1 : Int), AV.bool Bool.false, AV.bool Bool.false, AV.slice (9 : Nat) (0 : Nat) (1 : Nat) (1 : Nat) Bool.false, AV.int IntKind.i64 (0 : Int), AV.ptr (9 : Nat) (0 : Nat), AV.agg [AV.int IntKind.u64 (7 : Int), AV.int IntKind.i64 (5 : Int)], AV.agg [AV.int IntKind.u64 (7 : Int), AV.int IntKind.i64 (5 : Int)], AV.bool Bool.true, AV.bool Bool.true, AV.bool Bool.true, AV.sint IntKind.u64 a, AV.sint IntKind.u64 i, AV.sint IntKind.u64 (a + i), AV.sint IntKind.u64 nx, AV.bool Bool.true, AV.bool Bool.false, AV.bool Bool.true, AV.sint IntKind.u64 nx, AV.sint IntKind.u64 w, AV.sint IntKind.u64 (nx + w), AV.sint IntKind.u64 w, AV.sint IntKind.u64 ((2 : Int) * w), AV.sint IntKind.u64 ((2 : Int) * w), AV.top]) [0, 9, 1] ([(Option.some (Blk.cells (0 : Nat) Option.none [AV.map (1 : Nat)]), Option.none), (Option.some (Blk.cells (9 : Nat) (Option.some (2 : Nat)) [AV.int IntKind.u64 (7 : Int), AV.int IntKind.i64 (5 : Int)]), Option.none), (Option.some (Blk.map (1 : Nat) [{ key := AV.int IntKind.u64 (7 : Int), val := AV.agg [AV.int IntKind.i64 (5 : Int), AV.sint IntKind.u64 (a + i), AV.sint IntKind.u64 w, AV.sint IntKind.u64 ((2 : Int) * w)], born := (0 : Nat) }, { key := AV.int IntKind.u64 (3 : Int), val := AV.agg [AV.int IntKind.i64 (1 : Int), AV.sint IntKind.u64 f3, AV.sint IntKind.u64 g3, AV.sint IntKind.u64 w3], born := (1 : Nat) }] (2 : Nat)), Option.none)]))))))))))))) (.stop (Hd.tt) [] ([]))) (.conj (.left (decide ((0 : Int) ≤ a + i ∧ a + i ≤ (18446744073709551615 : Int))) (.right (decide (a + i = nx)) (.left (decide ((0 : Int) ≤ i + (1 : Int) ∧ i + (1 : Int) ≤ (18446744073709551615 : Int))) (.stop (Hd.again (again' dtT dtG dtM (Sum.inr { i := i, f := f, g := g, w := w, nx := nx, f3 := f3, g3 := g3, w3 := w3, k := k })) [AV.sint IntKind.u64 a, AV.sint IntKind.u8 o, AV.sint IntKind.u8 r, AV.top, AV.top, AV.top, AV.top, AV.ptr (0 : Nat) (0 : Nat), AV.sint IntKind.u64 nx, AV.sint IntKind.u64 w, AV.sint IntKind.u64 (i + (1 : Int)), AV.nilSlice, AV.bool Bool.false, AV.int IntKind.i64 (0 : Int), AV.top, AV.top, AV.top, AV.top, AV.top, AV.top, AV.top, AV.top, AV.top, AV.sint IntKind.u64 i, AV.sint IntKind.u8 r, AV.sint IntKind.u64 r, AV.bool Bool.true, AV.sint IntKind.u64 i, AV.sint IntKind.u64 (i + (1 : Int)), AV.sint IntKind.u64 i, AV.sint IntKind.u8 o, AV.sint IntKind.u64 o, AV.bool Bool.false, AV.bool Bool.false, AV.tuple [], AV.tuple [], AV.tuple [], AV.tuple [], AV.tuple [], AV.tuple [], AV.bool Bool.false, AV.ptr (0 : Nat) (0 : Nat), AV.sint IntKind.u64 a, AV.sint IntKind.u64 i, AV.sint IntKind.u64 (a + i), AV.nilSlice, AV.int IntKind.i64 (0 : Int), AV.nilSlice, AV.int IntKind.i64 (0 : Int), AV.bool Bool.false, AV.top, AV.top, AV.top, AV.top, AV.top, AV.top, AV.top, AV.top, AV.top, AV.top, AV.top, AV.bool Bool.false, AV.sint IntKind.u64 a, AV.sint IntKind.u64 i, AV.sint IntKind.u64 (a + i), AV.sint IntKind.u64 nx, AV.bool Bool.false, AV.bool Bool.false, AV.bool Bool.false, AV.top, AV.top, AV.top, AV.top, AV.top, AV.top, AV.top]) [0, 1] ([(Option.some (Blk.cells (0 : Nat) Option.none [AV.map (1 : Nat)]), Option.none), (Option.some (Blk.map (1 : Nat) [{ key := AV.int IntKind.u64 (7 : Int), val := AV.agg [AV.int IntKind.i64 (5 : Int), AV.sint IntKind.u64 f, AV.sint IntKind.u64 g, AV.sint IntKind.u64 w], born := (0 : Nat) }, { key := AV.int IntKind.u64 (3 : Int), val := AV.agg [AV.int IntKind.i64 (1 : Int), AV.sint IntKind.u64 f3, AV.sint IntKind.u64 g3, AV.sint IntKind.u64 w3], born := (1 : Nat) }] (2 : Nat)), Option.none)]))))) (.stop (Hd.tt) [] ([])))))) (.stop (Hd.tt) [] ([]))))))) (.stop (Hd.tt) [] ([])))))))) (.stop (Hd.call (15 : Nat) []) [] ([])))) (by kernel_rfl) ?_
  refine hold_leftD0 (Classical.byContradiction fun h2 => by omega) ?_
  refine hold_forkD (fun h2 => ?_) (fun h2 => ?_)
  ·
   refine hold_leftD0 (Classical.byContradiction fun h3 => by omega) ?_
   refine hold_rightD0 (fun h3 => by omega) ?_
   refine hold_leftD0 (Classical.byContradiction fun h3 => by omega) ?_
   refine hold_conj ?_ ?_
   ·
    refine hold_stop (fun hd hb => ?_)
    exact ok_tt hd
   refine hold_conj ?_ ?_
   ·
    refine hold_leftD0 (Classical.byContradiction fun h3 => by omega) ?_
    refine hold_leftD0 (Classical.byContradiction fun h3 => by omega) ?_
    refine hold_forkD (fun h3 => ?_) (fun h3 => ?_)
    ·
     refine hold_conj ?_ ?_
     ·
      refine hold_stop (fun hd hb => ?_)
      exact ok_tt hd
     refine hold_conj ?_ ?_
     ·
      refine hold_leftD0 (Classical.byContradiction fun h4 => by omega) ?_
      refine hold_leftD0 (Classical.byContradiction fun h4 => by omega) ?_
      refine hold_forkD (fun h4 => ?_) (fun h4 => ?_)
      ·
       refine hold_conj ?_ ?_
       ·
        refine hold_leftD0 (Classical.byContradiction fun h5 => by omega) ?_
        refine hold_leftD0 (Classical.byContradiction fun h5 => by omega) ?_
        refine hold_leftD0 (Classical.byContradiction fun h5 => by omega) ?_
        refine hold_leftD0 (Classical.byContradiction fun h5 => by omega) ?_
        refine hold_forkD (fun h5 => ?_) (fun h5 => ?_)
        ·
         refine hold_leftD0 (Classical.byContradiction fun h6 => by omega) ?_
         refine hold_leftD0 (Classical.byContradiction fun h6 => by omega) ?_
         refine hold_leftD0 (Classical.byContradiction fun h6 => by omega) ?_
         refine hold_leftD0 (Classical.byContradiction fun h6 => by omega) ?_
         refine hold_forkD (fun h6 => ?_) (fun h6 => ?_)
         ·
          refine hold_leftD0 (Classical.byContradiction fun h7 => by omega) ?_
          refine hold_leftD0 (Classical.byContradiction fun h7 => by omega) ?_
          refine hold_leftD0 (Classical.byContradiction fun h7 => by omega) ?_
          refine hold_leftD0 (Classical.byContradiction fun h7 => by omega) ?_
          refine hold_leftD0 (Classical.byContradiction fun h7 => by omega) ?_
          refine hold_leftD0 (Classical.byContradiction fun h7 => by omega) ?_
          refine hold_stop (fun hd hb => ?_)
          refine ok_again hd [some 0, some 1] (.inr ⟨i + 1, _, _, _, _, _, _, _, ?_⟩) ?_ (fitsT _ (look_fst hb) (by first | exact look_fst (look_tl hb) | exact look_fst (look_tl (look_tl hb))) (by decide) (by first | exact fit_n | exact fit_i) (by first | exact fit_n | exact fit_i) (by first | exact fit_n | exact fit_i) (by first | exact fit_n | exact fit_i) (by first | exact fit_n | exact fit_i) (by first | exact fit_n | exact fit_i) (by simp only [dtS, fitsA, fitA, and_self, and_true, true_and, List.getElem?_cons_zero]; first | exact rfl | exact ⟨rfl, rfl⟩))
          · omega
          · show (r - (i + 1)).toNat < (r - i).toNat
            omega
         refine hold_leftD0 (Classical.byContradiction fun h7 => by omega) ?_
         refine hold_leftD0 (Classical.byContradiction fun h7 => by omega) ?_
         refine hold_leftD0 (Classical.byContradiction fun h7 => by omega) ?_
         refine hold_leftD0 (Classical.byContradiction fun h7 => by omega) ?_
         refine hold_rightD0 (fun h7 => by omega) ?_
         refine hold_leftD0 (Classical.byContradiction fun h7 => by omega) ?_
         refine hold_stop (fun hd hb => ?_)
         refine ok_again hd [some 0, some 1] (.inr ⟨i + 1, _, _, _, _, _, _, _, ?_⟩) ?_ (fitsT _ (look_fst hb) (by first | exact look_fst (look_tl hb) | exact look_fst (look_tl (look_tl hb))) (by decide) (by first | exact fit_n | exact fit_i) (by first | exact fit_n | exact fit_i) (by first | exact fit_n | exact fit_i) (by first | exact fit_n | exact fit_i) (by first | exact fit_n | exact fit_i) (by first | exact fit_n | exact fit_i) (by simp only [dtS, fitsA, fitA, and_self, and_true, true_and, List.getElem?_cons_zero]; first | exact rfl | exact ⟨rfl, rfl⟩))
         · omega
         · show (r - (i + 1)).toNat < (r - i).toNat
           omega
        refine hold_leftD0 (Classical.byContradiction fun h6 => by omega) ?_
        refine hold_leftD0 (Classical.byContradiction fun h6 => by omega) ?_
        refine hold_leftD0 (Classical.byContradiction fun h6 => by omega) ?_
        refine hold_leftD0 (Classical.byContradiction fun h6 => by omega) ?_
        refine hold_forkD (fun h6 => ?_) (fun h6 => ?_)
        ·
         refine hold_leftD0 (Classical.byContradiction fun h7 => by omega) ?_
         refine hold_leftD0 (Classical.byContradiction fun h7 => by omega) ?_
         refine hold_leftD0 (Classical.byContradiction fun h7 => by omega) ?_
         refine hold_leftD0 (Classical.byContradiction fun h7 => by omega) ?_
         refine hold_leftD0 (Classical.byContradiction fun h7 => by omega) ?_
         refine hold_leftD0 (Classical.byContradiction fun h7 => by omega) ?_
         refine hold_stop (fun hd hb => ?_)
         refine ok_again hd [some 0, some 1] (.inr ⟨i + 1, _, _, _, _, _, _, _, ?_⟩) ?_ (fitsT _ (look_fst hb) (by first | exact look_fst (look_tl hb) | exact look_fst (look_tl (look_tl hb))) (by decide) (by first | exact fit_n | exact fit_i) (by first | exact fit_n | exact fit_i) (by first | exact fit_n | exact fit_i) (by first | exact fit_n | exact fit_i) (by first | exact fit_n | exact fit_i) (by first | exact fit_n | exact fit_i) (by simp only [dtS, fitsA, fitA, and_self, and_true, true_and, List.getElem?_cons_zero]; first | exact rfl | exact ⟨rfl, rfl⟩))
         · omega
         · show (r - (i + 1)).toNat < (r - i).toNat
           omega
        refine hold_leftD0 (Classical.byContradiction fun h7 => by omega) ?_
        refine hold_leftD0 (Classical.byContradiction fun h7 => by omega) ?_
        refine hold_leftD0 (Classical.byContradiction fun h7 => by omega) ?_
        refine hold_leftD0 (Classical.byContradiction fun h7 => by omega) ?_
        refine hold_rightD0 (fun h7 => by omega) ?_
        refine hold_leftD0 (Classical.byContradiction fun h7 => by omega) ?_
        refine hold_stop (fun hd hb => ?_)
        refine ok_again hd [some 0, some 1] (.inr ⟨i + 1, _, _, _, _, _, _, _, ?_⟩) ?_ (fitsT _ (look_fst hb) (by first | exact look_fst (look_tl hb) | exact look_fst (look_tl (look_tl hb))) (by decide) (by first | exact fit_n | exact fit_i) (by first | exact fit_n | exact fit_i) (by first | exact fit_n | exact fit_i) (by first | exact fit_n | exact fit_i) (by first | exact fit_n | exact fit_i) (by first | exact fit_n | exact fit_i) (by simp only [dtS, fitsA, fitA, and_self, and_true, true_and, List.getElem?_cons_zero]; first | exact rfl | exact ⟨rfl, rfl⟩))
        · omega
        · show (r - (i + 1)).toNat < (r - i).toNat
          omega
       refine hold_stop (fun hd hb => ?_)
       exact ok_tt hd
      refine hold_conj ?_ ?_
      ·
       refine hold_leftD0 (Classical.byContradiction fun h5 => by omega) ?_
       refine hold_leftD0 (Classical.byContradiction fun h5 => by omega) ?_
       refine hold_leftD0 (Classical.byContradiction fun h5 => by omega) ?_
       refine hold_leftD0 (Classical.byContradiction fun h5 => by omega) ?_
       refine hold_forkD (fun h5 => ?_) (fun h5 => ?_)
       ·
        refine hold_leftD0 (Classical.byContradiction fun h6 => by omega) ?_
        refine hold_leftD0 (Classical.byContradiction fun h6 => by omega) ?_
        refine hold_leftD0 (Classical.byContradiction fun h6 => by omega) ?_
        refine hold_leftD0 (Classical.byContradiction fun h6 => by omega) ?_
        refine hold_leftD0 (Classical.byContradiction fun h6 => by omega) ?_
        refine hold_leftD0 (Classical.byContradiction fun h6 => by omega) ?_
        refine hold_stop (fun hd hb => ?_)
        refine ok_again hd [some 0, some 1] (.inr ⟨i + 1, _, _, _, _, _, _, _, ?_⟩) ?_ (fitsT _ (look_fst hb) (by first | exact look_fst (look_tl hb) | exact look_fst (look_tl (look_tl hb))) (by decide) (by first | exact fit_n | exact fit_i) (by first | exact fit_n | exact fit_i) (by first | exact fit_n | exact fit_i) (by first | exact fit_n | exact fit_i) (by first | exact fit_n | exact fit_i) (by first | exact fit_n | exact fit_i) (by simp only [dtS, fitsA, fitA, and_self, and_true, true_and, List.getElem?_cons_zero]; first | exact rfl | exact ⟨rfl, rfl⟩))
        · omega
        · show (r - (i + 1)).toNat < (r - i).toNat
          omega
       refine hold_leftD0 (Classical.byContradiction fun h6 => by omega) ?_
       refine hold_leftD0 (Classical.byContradiction fun h6 => by omega) ?_
       refine hold_leftD0 (Classical.byContradiction fun h6 => by omega) ?_
       refine hold_leftD0 (Classical.byContradiction fun h6 => by omega) ?_
       refine hold_rightD0 (fun h6 => by omega) ?_
       refine hold_leftD0 (Classical.byContradiction fun h6 => by omega) ?_
       refine hold_stop (fun hd hb => ?_)
       refine ok_again hd [some 0, some 1] (.inr ⟨i + 1, _, _, _, _, _, _, _, ?_⟩) ?_ (fitsT _ (look_fst hb) (by first | exact look_fst (look_tl hb) | exact look_fst (look_tl (look_tl hb))) (by decide) (by first | exact fit_n | exact fit_i) (by first | exact fit_n | exact fit_i) (by first | exact fit_n | exact fit_i) (by first | exact fit_n | exact fit_i) (by first | exact fit_n | exact fit_i) (by first | exact fit_n | exact fit_i) (by simp only [dtS, fitsA, fitA, and_self, and_true, true_and, List.getElem?_cons_zero]; first | exact rfl | exact ⟨rfl, rfl⟩))
       · omega
       · show (r - (i + 1)).toNat < (r - i).toNat
         omega
      refine hold_stop (fun hd hb => ?_)
      exact ok_tt hd
     refine hold_stop (fun hd hb => ?_)
     exact ok_tt hd
    refine hold_conj ?_ ?_
    ·
     refine hold_stop (fun hd hb => ?_)
     exact ok_tt hd
    refine hold_conj ?_ ?_
    ·
     refine hold_leftD0 (Classical.byContradiction fun h4 => by omega) ?_
     refine hold_leftD0 (Classical.byContradiction fun h4 => by omega) ?_
     refine hold_forkD (fun h4 => ?_) (fun h4 => ?_)
     ·
      refine hold_conj ?_ ?_
      ·
       refine hold_leftD0 (Classical.byContradiction fun h5 => by omega) ?_
       refine hold_leftD0 (Classical.byContradiction fun h5 => by omega) ?_
       refine hold_leftD0 (Classical.byContradiction fun h5 => by omega) ?_
       refine hold_leftD0 (Classical.byContradiction fun h5 => by omega) ?_
       refine hold_forkD (fun h5 => ?_) (fun h5 => ?_)
       ·
        refine hold_leftD0 (Classical.byContradiction fun h6 => by omega) ?_
        refine hold_rightD0 (fun h6 => by omega) ?_
        refine hold_leftD0 (Classical.byContradiction fun h6 => by omega) ?_
        refine hold_stop (fun hd hb => ?_)
        refine ok_again hd [some 0, some 1] (.inr ⟨i + 1, _, _, _, _, _, _, _, ?_⟩) ?_ (fitsT _ (look_fst hb) (by first | exact look_fst (look_tl hb) | exact look_fst (look_tl (look_tl hb))) (by decide) (by first | exact fit_n | exact fit_i) (by first | exact fit_n | exact fit_i) (by first | exact fit_n | exact fit_i) (by first | exact fit_n | exact fit_i) (by first | exact fit_n | exact fit_i) (by first | exact fit_n | exact fit_i) (by simp only [dtS, fitsA, fitA, and_self, and_true, true_and, List.getElem?_cons_zero]; first | exact rfl | exact ⟨rfl, rfl⟩))
        · omega
        · show (r - (i + 1)).toNat < (r - i).toNat
          omega
       refine hold_leftD0 (Classical.byContradiction fun h6 => by omega) ?_
       refine hold_rightD0 (fun h6 => by omega) ?_
       refine hold_leftD0 (Classical.byContradiction fun h6 => by omega) ?_
       refine hold_stop (fun hd hb => ?_)
       refine ok_again hd [some 0, some 1] (.inr ⟨i + 1, _, _, _, _, _, _, _, ?_⟩) ?_ (fitsT _ (look_fst hb) (by first | exact look_fst (look_tl hb) | exact look_fst (look_tl (look_tl hb))) (by decide) (by first | exact fit_n | exact fit_i) (by first | exact fit_n | exact fit_i) (by first | exact fit_n | exact fit_i) (by first | exact fit_n | exact fit_i) (by first | exact fit_n | exact fit_i) (by first | exact fit_n | exact fit_i) (by simp only [dtS, fitsA, fitA, and_self, and_true, true_and, List.getElem?_cons_zero]; first | exact rfl | exact ⟨rfl, rfl⟩))
       · omega
       · show (r - (i + 1)).toNat < (r - i).toNat
         omega
      refine hold_stop (fun hd hb => ?_)
      exact ok_tt hd
     refine hold_conj ?_ ?_
     ·
      refine hold_leftD0 (Classical.byContradiction fun h5 => by omega) ?_
      refine hold_rightD0 (fun h5 => by omega) ?_
      refine hold_leftD0 (Classical.byContradiction fun h5 => by omega) ?_
      refine hold_stop (fun hd hb => ?_)
      refine ok_again hd [some 0, some 1] (.inr ⟨i + 1, _, _, _, _, _, _, _, ?_⟩) ?_ (fitsT _ (look_fst hb) (by first | exact look_fst (look_tl hb) | exact look_fst (look_tl (look_tl hb))) (by decide) (by first | exact fit_n | exact fit_i) (by first | exact fit_n | exact fit_i) (by first | exact fit_n | exact fit_i) (by first | exact fit_n | exact fit_i) (by first | exact fit_n | exact fit_i) (by first | exact fit_n | exact fit_i) (by simp only [dtS, fitsA, fitA, and_self, and_true, true_and, List.getElem?_cons_zero]; first | exact rfl | exact ⟨rfl, rfl⟩))
      · omega
      · show (r - (i + 1)).toNat < (r - i).toNat
        omega
     refine hold_stop (fun hd hb => ?_)
     exact ok_tt hd
    refine hold_stop (fun hd hb => ?_)
    exact ok_tt hd
   refine hold_conj ?_ ?_
   ·
    refine hold_leftD0 (Classical.byContradiction fun h3 => by omega) ?_
    refine hold_leftD0 (Classical.byContradiction fun h3 => by omega) ?_
    refine hold_forkD (fun h3 => ?_) (fun h3 => ?_)
    ·
     refine hold_conj ?_ ?_
     ·
      refine hold_stop (fun hd hb => ?_)
      exact ok_tt hd
     refine hold_conj ?_ ?_
     ·
      refine hold_leftD0 (Classical.byContradiction fun h4 => by omega) ?_
      refine hold_leftD0 (Classical.byContradiction fun h4 => by omega) ?_
      refine hold_forkD (fun h4 => ?_) (fun h4 => ?_)
      ·
       refine hold_conj ?_ ?_
       ·
        refine hold_leftD0 (Classical.byContradiction fun h5 => by omega) ?_
        refine hold_leftD0 (Classical.byContradiction fun h5 => by omega) ?_
        refine hold_leftD0 (Classical.byContradiction fun h5 => by omega) ?_
        refine hold_leftD0 (Classical.byContradiction fun h5 => by omega) ?_
        refine hold_forkD (fun h5 => ?_) (fun h5 => ?_)
        ·
         refine hold_leftD0 (Classical.byContradiction fun h6 => by omega) ?_
         refine hold_leftD0 (Classical.byContradiction fun h6 => by omega) ?_
         refine hold_leftD0 (Classical.byContradiction fun h6 => by omega) ?_
         refine hold_leftD0 (Classical.byContradiction fun h6 => by omega) ?_
         refine hold_forkD (fun h6 => ?_) (fun h6 => ?_)
         ·
          refine hold_leftD0 (Classical.byContradiction fun h7 => by omega) ?_
          refine hold_leftD0 (Classical.byContradiction fun h7 => by omega) ?_
          refine hold_leftD0 (Classical.byContradiction fun h7 => by omega) ?_
          refine hold_leftD0 (Classical.byContradiction fun h7 => by omega) ?_
          refine hold_leftD0 (Classical.byContradiction fun h7 => by omega) ?_
          refine hold_leftD0 (Classical.byContradiction fun h7 => by omega) ?_
          refine hold_stop (fun hd hb => ?_)
          refine ok_again hd [some 0, some 1] (.inr ⟨i + 1, _, _, _, _, _, _, _, ?_⟩) ?_ (fitsT _ (look_fst hb) (by first | exact look_fst (look_tl hb) | exact look_fst (look_tl (look_tl hb))) (by decide) (by first | exact fit_n | exact fit_i) (by first | exact fit_n | exact fit_i) (by first | exact fit_n | exact fit_i) (by first | exact fit_n | exact fit_i) (by first | exact fit_n | exact fit_i) (by first | exact fit_n | exact fit_i) (by simp only [dtS, fitsA, fitA, and_self, and_true, true_and, List.getElem?_cons_zero]; first | exact rfl | exact ⟨rfl, rfl⟩))
          · omega
          · show (r - (i + 1)).toNat < (r - i).toNat
            omega
         refine hold_leftD0 (Classical.byContradiction fun h7 => by omega) ?_
         refine hold_leftD0 (Classical.byContradiction fun h7 => by omega) ?_
         refine hold_leftD0 (Classical.byContradiction fun h7 => by omega) ?_
         refine hold_leftD0 (Classical.byContradiction fun h7 => by omega) ?_
         refine hold_rightD0 (fun h7 => by omega) ?_
         refine hold_leftD0 (Classical.byContradiction fun h7 => by omega) ?_
         refine hold_stop (fun hd hb => ?_)
         refine ok_again hd [some 0, some 1] (.inr ⟨i + 1, _, _, _, _, _, _, _, ?_⟩) ?_ (fitsT _ (look_fst hb) (by first | exact look_fst (look_tl hb) | exact look_fst (look_tl (look_tl hb))) (by decide) (by first | exact fit_n | exact fit_i) (by first | exact fit_n | exact fit_i) (by first | exact fit_n | exact fit_i) (by first | exact fit_n | exact fit_i) (by first | exact fit_n | exact fit_i) (by first | exact fit_n | exact fit_i) (by simp only [dtS, fitsA, fitA, and_self, and_true, true_and, List.getElem?_cons_zero]; first | exact rfl | exact ⟨rfl, rfl⟩))
         · omega
         · show (r - (i + 1)).toNat < (r - i).toNat
           omega
        refine hold_leftD0 (Classical.byContradiction fun h6 => by omega) ?_
        refine hold_leftD0 (Classical.byContradiction fun h6 => by omega) ?_
        refine hold_leftD0 (Classical.byContradiction fun h6 => by omega) ?_
        refine hold_leftD0 (Classical.byContradiction fun h6 => by omega) ?_
        refine hold_forkD (fun h6 => ?_) (fun h6 => ?_)
        ·
         refine hold_leftD0 (Classical.byContradiction fun h7 => by omega) ?_
         refine hold_leftD0 (Classical.byContradiction fun h7 => by omega) ?_
         refine hold_leftD0 (Classical.byContradiction fun h7 => by omega) ?_
         refine hold_leftD0 (Classical.byContradiction fun h7 => by omega) ?_
         refine hold_leftD0 (Classical.byContradiction fun h7 => by omega) ?_
         refine hold_leftD0 (Classical.byContradiction fun h7 => by omega) ?_
         refine hold_stop (fun hd hb => ?_)
         refine ok_again hd [some 0, some 1] (.inr ⟨i + 1, _, _, _, _, _, _, _, ?_⟩) ?_ (fitsT _ (look_fst hb) (by first | exact look_fst (look_tl hb) | exact look_fst (look_tl (look_tl hb))) (by decide) (by first | exact fit_n | exact fit_i) (by first | exact fit_n | exact fit_i) (by first | exact fit_n | exact fit_i) (by first | exact fit_n | exact fit_i) (by first | exact fit_n | exact fit_i) (by first | exact fit_n | exact fit_i) (by simp only [dtS, fitsA, fitA, and_self, and_true, true_and, List.getElem?_cons_zero]; first | exact rfl | exact ⟨rfl, rfl⟩))
         · omega
         · show (r - (i + 1)).toNat < (r - i).toNat
           omega
        refine hold_leftD0 (Classical.byContradiction fun h7 => by omega) ?_
        refine hold_leftD0 (Classical.byContradiction fun h7 => by omega) ?_
        refine hold_leftD0 (Classical.byContradiction fun h7 => by omega) ?_
        refine hold_leftD0 (Classical.byContradiction fun h7 => by omega) ?_
        refine hold_rightD0 (fun h7 => by omega) ?_
        refine hold_leftD0 (Classical.byContradiction fun h7 => by omega) ?_
        refine hold_stop (fun hd hb => ?_)
        refine ok_again hd [some 0, some 1] (.inr ⟨i + 1, _, _, _, _, _, _, _, ?_⟩) ?_ (fitsT _ (look_fst hb) (by first | exact look_fst (look_tl hb) | exact look_fst (look_tl (look_tl hb))) (by decide) (by first | exact fit_n | exact fit_i) (by first | exact fit_n | exact fit_i) (by first | exact fit_n | exact fit_i) (by first | exact fit_n | exact fit_i) (by first | exact fit_n | exact fit_i) (by first | exact fit_n | exact fit_i) (by simp only [dtS, fitsA, fitA, and_self, and_true, true_and, List.getElem?_cons_zero]; first | exact rfl | exact ⟨rfl, rfl⟩))
        · omega
        · show (r - (i + 1)).toNat < (r - i).toNat
          omega
       refine hold_stop (fun hd hb => ?_)
       exact ok_tt hd
      refine hold_conj ?_ ?_
      ·
       refine hold_leftD0 (Classical.byContradiction fun h5 => by omega) ?_
       refine hold_leftD0 (Classical.byContradiction fun h5 => by omega) ?_
       refine hold_leftD0 (Classical.byContradiction fun h5 => by omega) ?_
       refine hold_leftD0 (Classical.byContradiction fun h5 => by omega) ?_
       refine hold_forkD (fun h5 => ?_) (fun h5 => ?_)
       ·
        refine hold_leftD0 (Classical.byContradiction fun h6 => by omega) ?_
        refine hold_rightD0 (fun h6 => by omega) ?_
        refine hold_leftD0 (Classical.byContradiction fun h6 => by omega) ?_
        refine hold_stop (fun hd hb => ?_)
        refine ok_again hd [some 0, some 1] (.inr ⟨i + 1, _, _, _, _, _, _, _, ?_⟩) ?_ (fitsT _ (look_fst hb) (by first | exact look_fst (look_tl hb) | exact look_fst (look_tl (look_tl hb))) (by decide) (by first | exact fit_n | exact fit_i) (by first | exact fit_n | exact fit_i) (by first | exact fit_n | exact fit_i) (by first | exact fit_n | exact fit_i) (by first | exact fit_n | exact fit_i) (by first | exact fit_n | exact fit_i) (by simp only [dtS, fitsA, fitA, and_self, and_true, true_and, List.getElem?_cons_zero]; first | exact rfl | exact ⟨rfl, rfl⟩))
        · omega
        · show (r - (i + 1)).toNat < (r - i).toNat
          omega
       refine hold_leftD0 (Classical.byContradiction fun h6 => by omega) ?_
       refine hold_rightD0 (fun h6 => by omega) ?_
       refine hold_leftD0 (Classical.byContradiction fun h6 => by omega) ?_
       refine hold_stop (fun hd hb => ?_)
       refine ok_again hd [some 0, some 1] (.inr ⟨i + 1, _, _, _, _, _, _, _, ?_⟩) ?_ (fitsT _ (look_fst hb) (by first | exact look_fst (look_tl hb) | exact look_fst (look_tl (look_tl hb))) (by decide) (by first | exact fit_n | exact fit_i) (by first | exact fit_n | exact fit_i) (by first | exact fit_n | exact fit_i) (by first | exact fit_n | exact fit_i) (by first | exact fit_n | exact fit_i) (by first | exact fit_n | exact fit_i) (by simp only [dtS, fitsA, fitA, and_self, and_true, true_and, List.getElem?_cons_zero]; first | exact rfl | exact ⟨rfl, rfl⟩))
       · omega
       · show (r - (i + 1)).toNat < (r - i).toNat
         omega
      refine hold_stop (fun hd hb => ?_)
      exact ok_tt hd
     refine hold_stop (fun hd hb => ?_)
     exact ok_tt hd
    refine hold_conj ?_ ?_
    ·
     refine hold_stop (fun hd hb => ?_)
     exact ok_tt hd
    refine hold_conj ?_ ?_
    ·
     refine hold_leftD0 (Classical.byContradiction fun h4 => by omega) ?_
     refine hold_leftD0 (Classical.byContradiction fun h4 => by omega) ?_
     refine hold_forkD (fun h4 => ?_) (fun h4 => ?_)
     ·
      refine hold_conj ?_ ?_
      ·
       refine hold_leftD0 (Classical.byContradiction fun h5 => by omega) ?_
       refine hold_leftD0 (Classical.byContradiction fun h5 => by omega) ?_
       refine hold_leftD0 (Classical.byContradiction fun h5 => by omega) ?_
       refine hold_leftD0 (Classical.byContradiction fun h5 => by omega) ?_
       refine hold_forkD (fun h5 => ?_) (fun h5 => ?_)
       ·
        refine hold_leftD0 (Classical.byContradiction fun h6 => by omega) ?_
        refine hold_leftD0 (Classical.byContradiction fun h6 => by omega) ?_
        refine hold_leftD0 (Classical.byContradiction fun h6 => by omega) ?_
        refine hold_leftD0 (Classical.byContradiction fun h6 => by omega) ?_
        refine hold_leftD0 (Classical.byContradiction fun h6 => by omega) ?_
        refine hold_leftD0 (Classical.byContradiction fun h6 => by omega) ?_
        refine hold_stop (fun hd hb => ?_)
        refine ok_again hd [some 0, some 1] (.inr ⟨i + 1, _, _, _, _, _, _, _, ?_⟩) ?_ (fitsT _ (look_fst hb) (by first | exact look_fst (look_tl hb) | exact look_fst (look_tl (look_tl hb))) (by decide) (by first | exact fit_n | exact fit_i) (by first | exact fit_n | exact fit_i) (by first | exact fit_n | exact fit_i) (by first | exact fit_n | exact fit_i) (by first | exact fit_n | exact fit_i) (by first | exact fit_n | exact fit_i) (by simp only [dtS, fitsA, fitA, and_self, and_true, true_and, List.getElem?_cons_zero]; first | exact rfl | exact ⟨rfl, rfl⟩))
        · omega
        · show (r - (i + 1)).toNat < (r - i).toNat
          omega
       refine hold_leftD0 (Classical.byContradiction fun h6 => by omega) ?_
       refine hold_leftD0 (Classical.byContradiction fun h6 => by omega) ?_
       refine hold_leftD0 (Classical.byContradiction fun h6 => by omega) ?_
       refine hold_leftD0 (Classical.byContradiction fun h6 => by omega) ?_
       refine hold_rightD0 (fun h6 => by omega) ?_
       refine hold_leftD0 (Classical.byContradiction fun h6 => by omega) ?_
       refine hold_stop (fun hd hb => ?_)
       refine ok_again hd [some 0, some 1] (.inr ⟨i + 1, _, _, _, _, _, _, _, ?_⟩) ?_ (fitsT _ (look_fst hb) (by first | exact look_fst (look_tl hb) | exact look_fst (look_tl (look_tl hb))) (by decide) (by first | exact fit_n | exact fit_i) (by first | exact fit_n | exact fit_i) (by first | exact fit_n | exact fit_i) (by first | exact fit_n | exact fit_i) (by first | exact fit_n | exact fit_i) (by first | exact fit_n | exact fit_i) (by simp only [dtS, fitsA, fitA, and_self, and_true, true_and, List.getElem?_cons_zero]; first | exact rfl | exact ⟨rfl, rfl⟩))
       · omega
       · show (r - (i + 1)).toNat < (r - i).toNat
         omega
      refine hold_stop (fun hd hb => ?_)
      exact ok_tt hd
     refine hold_conj ?_ ?_
     ·
      refine hold_leftD0 (Classical.byContradiction fun h5 => by omega) ?_
      refine hold_rightD0 (fun h5 => by omega) ?_
      refine hold_leftD0 (Classical.byContradiction fun h5 => by omega) ?_
      refine hold_stop (fun hd hb => ?_)
      refine ok_again hd [some 0, some 1] (.inr ⟨i + 1, _, _, _, _, _, _, _, ?_⟩) ?_ (fitsT _ (look_fst hb) (by first | exact look_fst (look_tl hb) | exact look_fst (look_tl (look_tl hb))) (by decide) (by first | exact fit_n | exact fit_i) (by first | exact fit_n | exact fit_i) (by first | exact fit_n | exact fit_i) (by first | exact fit_n | exact fit_i) (by first | exact fit_n | exact fit_i) (by first | exact fit_n | exact fit_i) (by simp only [dtS, fitsA, fitA, and_self, and_true, true_and, List.getElem?_cons_zero]; first | exact rfl | exact ⟨rfl, rfl⟩))
      · omega
      · show (r - (i + 1)).toNat < (r - i).toNat
        omega
     refine hold_stop (fun hd hb => ?_)
     exact ok_tt hd
    refine hold_stop (fun hd hb => ?_)
    exact ok_tt hd
   refine hold_stop (fun hd hb => ?_)
   exact ok_tt hd
  refine hold_stop (fun hd hb => ?_)
  refine ok_call0 hd works rfl ?_
  rintro x G ⟨rfl, rfl⟩
  refine ⟨rfl, fun g hg => (by cases hg), ?_⟩
  refine ok_sk (.stop []) (S := .stop (Hd.leaf (AV.bool Bool.true)) [] ([])) (by kernel_rfl) ?_
  refine hold_stop (fun hd hb => ?_)
  exact ok_leaf0 hd rfl ⟨rfl, rfl⟩
end Go.Proofs.Ytekianhbdaiacaa
