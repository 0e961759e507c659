import Derived.Test.YtkebdfbdneggkaaGreatUa
set_option linter.unusedVariables false
set_option linter.unusedSimpArgs false
namespace Go.Proofs.YtkebdfbdneggkaaGreat
open Go Go.RowKit Sv
set_option linter.unusedVariables false
set_option linter.unusedSimpArgs false
set_option maxRecDepth 100000
set_option maxHeartbeats 0
theorem fit_n {ns : List (Option Nat)} {k : IntKind} {x : Int} : fitA ns (.sint k x) (.sint k x) := by simp [fitA]
theorem fit_g {ns : List (Option Nat)} {k j n : Nat} (h : ns[k]? = some (some j)) : fitA ns (.gsl k n) (.gsl j n) := by simp [fitA, h]
theorem fit_nil {ns : List (Option Nat)} {b : Nat} : fitA ns (.gsl b 0) .nilSlice := by simp [fitA]
theorem fit_i {ns : List (Option Nat)} {k : IntKind} {x : Int} : fitA ns (.sint k x) (.int k x) := by simp [fitA]
theorem look_get {H : AH} : ∀ {l : List Nat} {r : List (Option Blk × Option (Nat × Nat × (Nat → List AV)))}, Sv.look H l = r → ∀ (k : Nat) {j : Nat} {b : Option Blk × Option (Nat × Nat × (Nat → List AV))}, l[k]? = some j → r[k]? = some b → H.tr.get j = b.1 ∧ seqAt H j = b.2
  | [], _, h, k, j, b, hj, _ => by simp at hj
  | a :: l, [], h, k, j, b, hj, hb => by simp at hb
  | a :: l, c :: r, h, 0, j, b, hj, hb => by
    simp at hj hb; subst hj; subst hb
    have e : Sv.look H (a :: l) = (H.tr.get a, seqAt H a) :: Sv.look H l := rfl
    rw [e] at h
    have := (List.cons.inj h).1
    rw [← this]
    exact ⟨rfl, rfl⟩
  | a :: l, c :: r, h, k + 1, j, b, hj, hb => by
    exact look_get (look_tl h) k (by simpa using hj) (by simpa using hb)
def lpZ : List AV := [.int .u8 0, .int .i64 0, .int .u8 0, .int .u64 0, .int .i64 0, .int .i64 0, .int .u64 0, .int .u64 0, .int .i64 0, .int .i64 0, .int .i64 0, .nilSlice]
def lpT (c i : Int) : List AV := [.top, .ptr 0 0, .ptr 1 0, .top, .ptr 2 0, .ptr 3 0, .fn 31 [] [.ptr 0 0, .ptr 2 0, .ptr 3 0], .ptr 4 0, .top, .top, .top, .top, .top, .top, .top, .top, .top, .top, .top, .top, .top, .top, .top, .top, .top, .top, .top, .top, .top, .top, .top, .top, .top, .top, .top, .top, .top, .top, .top, .top, .top, .top, .top, .top, .top, .top, .top, .top, .top, .top, .top, .top, .top, .top, .top, .top, .top, .top, .top, .top, .top, .top, .top, .top, .top, .top, .sint .u64 c, .sint .u64 i, .top, .top, .top, .top, .top, .top, .top, .top, .top, .top, .top, .top, .top, .top, .top, .top, .top, .top, .top, .top, .top, .top, .top, .top, .top]
def lpG (n : Nat) (y : Nat → Nat) (a : AV) (b : Bool) (row : List AV) (i : Nat) (R : Nat → List AV) : List NewB := [.cells none [.data 1 n (by8 y)], .cells none lpZ, .cells none [a], .cells none [.bool b], .cells none row, .seq 1 i R]
def gr (y : Nat → Nat) (am : Int) (l : AV) : List AV := [.sint .u8 (n1 (sh y 0) % 256), .sint .i64 (n2 (sh y 1) - 1), .sint .u8 (n1 (sh y 11) % 256), .sint .u64 (n8 (sh y 12)), .sint .i64 (n2 (sh y 20) - 1), .sint .i64 am, .sint .u64 (n8 (sh y 30)), .sint .u64 (n8 (sh y 38)), .sint .i64 (n2 (sh y 5) - 1), .sint .i64 (n2 (sh y 3) - 1), .sint .i64 (n4 (sh y 7) - 1), l]
def br (l : AV) : List AV := [.top, .top, .top, .top, .top, .top, .top, .top, .top, .top, .top, l]
def pk (y : Nat → Nat) (j : Nat) : List AV := [.sint .i64 (n1 (sh y (47 + j)) - 1)]
def AmOK (m am : Int) : Prop := (m ≤ 9223372036854775807 → am = m - 1) ∧ (9223372036854775808 ≤ m → am < -1 ∨ 1152921504606846976 < am)
structure GS (n : Nat) (y : Nat → Nat) where
  i : Nat
  am : Int
  k : (i : Int) ≤ n1 (sh y 46) ∧ 47 + i ≤ n
  ha : AmOK (n8 (sh y 22)) am
structure BS (n : Nat) (y : Nat → Nat) where
  i : Nat
  a : Int
  c : Int
  R : Nat → List AV
  k : 0 ≤ a ∧ a ≤ n ∧ c ≤ 255 ∧ (i : Int) ≤ c ∧ (n : Int) < 47 + n1 (sh y 46)
  hr : ∀ j, j < i → nfs (R j) = true
def bT {n : Nat} {y : Nat → Nat} (s : BS n y) : List AV := lpT s.c s.i
def bG {n : Nat} {y : Nat → Nat} (s : BS n y) : List NewB := lpG n y (.sint .i64 s.a) true (br (.gsl 5 s.i)) s.i s.R
def bM {n : Nat} {y : Nat → Nat} (s : BS n y) : Nat := (s.c - s.i).toNat
def gT {n : Nat} {y : Nat → Nat} : GS n y ⊕ BS n y → List AV
  | .inl s => lpT (n1 (sh y 46)) s.i
  | .inr s => lpT s.c s.i
def gG {n : Nat} {y : Nat → Nat} : GS n y ⊕ BS n y → List NewB
  | .inl s => lpG n y (.sint .i64 (47 + (s.i : Int))) false (gr y s.am (.gsl 5 s.i)) s.i (pk y)
  | .inr s => lpG n y (.sint .i64 s.a) true (br (.gsl 5 s.i)) s.i s.R
def gM {n : Nat} {y : Nat → Nat} : GS n y ⊕ BS n y → Nat
  | .inl s => (n1 (sh y 46) - s.i).toNat
  | .inr s => (s.c - s.i).toNat
theorem fits6n {n : Nat} {y : Nat → Nat} {H : AH} {j0 j1 j2 j3 j4 c0 c1 c2 c3 c4 : Nat} {A a : AV} {b : Bool} {row row' xs bs : List AV} {R : Nat → List AV} (a0 : H.tr.get j0 = some (.cells c0 none [.data 1 n (by8 y)])) (a1 : H.tr.get j1 = some (.cells c1 none lpZ)) (a2 : H.tr.get j2 = some (.cells c2 none [A])) (a3 : H.tr.get j3 = some (.cells c3 none [.bool b])) (a4 : H.tr.get j4 = some (.cells c4 none row'))
    (hd : [c0, c1, c2, c3, c4].Pairwise (· ≠ ·)) (hx : fitsA [some j0, some j1, some j2, some j3, some j4, none] bs xs) (hA : fitA [some j0, some j1, some j2, some j3, some j4, none] a A) (hr : fitsA [some j0, some j1, some j2, some j3, some j4, none] row row') : Fits [some j0, some j1, some j2, some j3, some j4, none] xs H bs (lpG n y a b row 0 R) := by
  refine ⟨hx, ⟨⟨_, _, a0, ⟨rfl, rfl⟩, trivial⟩, ⟨_, _, a1, fitsA_self lpZ rfl⟩, ⟨_, _, a2, hA, trivial⟩, ⟨_, _, a3, ⟨rfl, rfl⟩, trivial⟩, ⟨_, _, a4, hr⟩, rfl, trivial⟩, ?_⟩
  have e : ([some j0, some j1, some j2, some j3, some j4, none].map fun o => o.bind H.clsOf) = ([c0, c1, c2, c3, c4].map some) ++ [none] := by simp [AH.clsOf, a0, a1, a2, a3, a4, Blk.cls]
  rw [e, List.pairwise_append]
  refine ⟨List.pairwise_map.2 (hd.imp fun h => .inr (by simpa using h)), by simp, fun x hx z hz => ?_⟩
  simp at hz; subst hz
  simp at hx
  rcases hx with h | h | h | h | h <;> subst h <;> exact .inr (by simp)
theorem fits6s {n : Nat} {y : Nat → Nat} {H : AH} {j0 j1 j2 j3 j4 j5 c0 c1 c2 c3 c4 i m : Nat} {A a : AV} {b : Bool} {row row' xs bs : List AV} {R R' : Nat → List AV} (a0 : H.tr.get j0 = some (.cells c0 none [.data 1 n (by8 y)])) (a1 : H.tr.get j1 = some (.cells c1 none lpZ)) (a2 : H.tr.get j2 = some (.cells c2 none [A])) (a3 : H.tr.get j3 = some (.cells c3 none [.bool b])) (a4 : H.tr.get j4 = some (.cells c4 none row')) (a5 : seqAt H j5 = some (1, m, R'))
    (hd : [c0, c1, c2, c3, c4, j5].Pairwise (· ≠ ·)) (hx : fitsA [some j0, some j1, some j2, some j3, some j4, some j5] bs xs) (hA : fitA [some j0, some j1, some j2, some j3, some j4, some j5] a A) (hr : fitsA [some j0, some j1, some j2, some j3, some j4, some j5] row row') (hi : i ≤ m) (hR : ∀ j, j < i → R j = R' j ∧ nfs (R j) = true) : Fits [some j0, some j1, some j2, some j3, some j4, some j5] xs H bs (lpG n y a b row i R) := by
  refine ⟨hx, ⟨⟨_, _, a0, ⟨rfl, rfl⟩, trivial⟩, ⟨_, _, a1, fitsA_self lpZ rfl⟩, ⟨_, _, a2, hA, trivial⟩, ⟨_, _, a3, ⟨rfl, rfl⟩, trivial⟩, ⟨_, _, a4, hr⟩, .inl ⟨_, _, a5, hi, hR⟩, trivial⟩, ?_⟩
  have e5 := (seq_one a5).1
  have e : ([some j0, some j1, some j2, some j3, some j4, some j5].map fun o => o.bind H.clsOf) = [c0, c1, c2, c3, c4, j5].map some := by
    simp [AH.clsOf, a0, a1, a2, a3, a4, Blk.cls]
    simpa [AH.clsOf] using e5
  rw [e]
  exact List.pairwise_map.2 (hd.imp fun h => .inr (by simpa using h))
theorem br_fit {ns : List (Option Nat)} {l l' : AV} {r : List AV} (hl : fitA ns l l') {a0 a1 a2 a3 a4 a5 a6 a7 a8 a9 a10 : AV} (e : r = [a0, a1, a2, a3, a4, a5, a6, a7, a8, a9, a10, l']) : fitsA ns (br l) r := by
  subst e
  exact ⟨trivial, trivial, trivial, trivial, trivial, trivial, trivial, trivial, trivial, trivial, trivial, hl, trivial⟩
theorem gr_fit {ns : List (Option Nat)} {y : Nat → Nat} {am : Int} {l l' : AV} {r : List AV} (hl : fitA ns l l') (e : r = gr y am l') : fitsA ns (gr y am l) r := by
  subst e
  exact ⟨⟨rfl, rfl⟩, ⟨rfl, rfl⟩, ⟨rfl, rfl⟩, ⟨rfl, rfl⟩, ⟨rfl, rfl⟩, ⟨rfl, rfl⟩, ⟨rfl, rfl⟩, ⟨rfl, rfl⟩, ⟨rfl, rfl⟩, ⟨rfl, rfl⟩, ⟨rfl, rfl⟩, hl, trivial⟩
theorem nfs_glue {i : Nat} {R g : Nat → List AV} (h : ∀ j, j < i → nfs (R j) = true) (hg : nfs (g 0) = true) : ∀ j, j < i + 1 → glue i R g j = glue i R g j ∧ nfs (glue i R g j) = true := fun j hj => by
  refine ⟨rfl, ?_⟩
  unfold glue
  by_cases e : j < i
  · rw [if_pos e]
    exact h j e
  · obtain rfl : j = i := by omega
    rw [if_neg e, Nat.sub_self]
    exact hg
theorem pk_glue {i : Nat} {y : Nat → Nat} {g : Nat → List AV} (hg : g 0 = pk y i) : ∀ j, j < i + 1 → pk y j = glue i (pk y) g j ∧ nfs (pk y j) = true := fun j hj => by
  refine ⟨?_, rfl⟩
  unfold glue
  by_cases e : j < i
  · rw [if_pos e]
  · obtain rfl : j = i := by omega
    rw [if_neg e, Nat.sub_self, hg]
theorem mem_pk {i : Nat} {y : Nat → Nat} {R : Nat → List AV} (h : R = pk y) : ∀ j, j < i → nfs (R j) = true := fun j _ => by subst h; rfl
theorem lpT_fit {j0 j1 j2 j3 j4 : Nat} {o5 : Option Nat} {c i : Int} {C I a0 a3 a8 a9 a10 a11 a12 a13 a14 a15 a16 a17 a18 a19 a20 a21 a22 a23 a24 a25 a26 a27 a28 a29 a30 a31 a32 a33 a34 a35 a36 a37 a38 a39 a40 a41 a42 a43 a44 a45 a46 a47 a48 a49 a50 a51 a52 a53 a54 a55 a56 a57 a58 a59 a60 a61 a62 a63 a64 a65 a68 a69 a70 a71 a72 a73 a74 a75 a76 a77 a78 a79 a80 a81 a82 a83 a84 a85 a86 a87 a88 a89 a90 a91 a92 : AV} (hC : fitA [some j0, some j1, some j2, some j3, some j4, o5] (.sint .u64 c) C) (hI : fitA [some j0, some j1, some j2, some j3, some j4, o5] (.sint .u64 i) I) : fitsA [some j0, some j1, some j2, some j3, some j4, o5] (lpT c i) [a0, .ptr j0 0, .ptr j1 0, a3, .ptr j2 0, .ptr j3 0, .fn 31 [] [.ptr j0 0, .ptr j2 0, .ptr j3 0], .ptr j4 0, a8, a9, a10, a11, a12, a13, a14, a15, a16, a17, a18, a19, a20, a21, a22, a23, a24, a25, a26, a27, a28, a29, a30, a31, a32, a33, a34, a35, a36, a37, a38, a39, a40, a41, a42, a43, a44, a45, a46, a47, a48, a49, a50, a51, a52, a53, a54, a55, a56, a57, a58, a59, a60, a61, a62, a63, a64, a65, C, I, a68, a69, a70, a71, a72, a73, a74, a75, a76, a77, a78, a79, a80, a81, a82, a83, a84, a85, a86, a87, a88, a89, a90, a91, a92] :=
  ⟨trivial, ⟨rfl, rfl⟩, ⟨rfl, rfl⟩, trivial, ⟨rfl, rfl⟩, ⟨rfl, rfl⟩, ⟨rfl, trivial, ⟨rfl, rfl⟩, ⟨rfl, rfl⟩, ⟨rfl, rfl⟩, trivial⟩, ⟨rfl, rfl⟩, trivial, trivial, trivial, trivial, trivial, trivial, trivial, trivial, trivial, trivial, trivial, trivial, trivial, trivial, trivial, trivial, trivial, trivial, trivial, trivial, trivial, trivial, trivial, trivial, trivial, trivial, trivial, trivial, trivial, trivial, trivial, trivial, trivial, trivial, trivial, trivial, trivial, trivial, trivial, trivial, trivial, trivial, trivial, trivial, trivial, trivial, trivial, trivial, trivial, trivial, trivial, trivial, trivial, trivial, trivial, trivial, trivial, trivial, hC, hI, trivial, trivial, trivial, trivial, trivial, trivial, trivial, trivial, trivial, trivial, trivial, trivial, trivial, trivial, trivial, trivial, trivial, trivial, trivial, trivial, trivial, trivial, trivial, trivial, trivial, trivial⟩
def stY (y : Nat → Nat) (am : Int) : StI := ⟨n1 (sh y 0) % 256, n2 (sh y 1) - 1, n1 (sh y 11) % 256, n8 (sh y 12), n2 (sh y 20) - 1, am, n8 (sh y 30), n8 (sh y 38), n2 (sh y 5) - 1, n2 (sh y 3) - 1, n4 (sh y 7) - 1⟩
def pkI (y : Nat → Nat) (j : Nat) : Int := n1 (sh y (47 + j)) - 1
def isSt (n : Nat) (y : Nat → Nat) : Prop := n = 47 + (n1 (sh y 46)).toNat ∧ (stY y (n8 (sh y 22) - 1)).may (n1 (sh y 46)).toNat (pkI y)
theorem am_of {m am : Int} (h : AmOK m am) (k : -1 ≤ am ∧ am ≤ 1152921504606846976) : am = m - 1 := by
  by_cases e : m ≤ 9223372036854775807
  · exact h.1 e
  · have := h.2 (by omega)
    omega
theorem st_view {H : AH} {s : StI} {b i m : Nat} {f' : Nat → List AV} {P : Nat → Int} (h : seqAt H b = some (1, m, f')) (hm : i ≤ m) (hf : ∀ j, j < i → [AV.sint .i64 (P j)] = f' j) : views H [.agg (s.row (.gsl b i))] [.agg (s.row (ints i P))] :=
  ⟨⟨⟨rfl, rfl⟩, ⟨rfl, rfl⟩, ⟨rfl, rfl⟩, ⟨rfl, rfl⟩, ⟨rfl, rfl⟩, ⟨rfl, rfl⟩, ⟨rfl, rfl⟩, ⟨rfl, rfl⟩, ⟨rfl, rfl⟩, ⟨rfl, rfl⟩, ⟨rfl, rfl⟩, ⟨rfl, m, f', h, hm, fun j hj => ⟨hf j hj, rfl⟩⟩, trivial⟩, trivial⟩
theorem fits6b {n : Nat} {y : Nat → Nat} {H : AH} {j0 j1 j2 j3 j4 j5 c0 c1 c2 c3 c4 i : Nat} {A a l' x0 x1 x2 x3 x4 x5 x6 x7 x8 x9 x10 : AV} {xs bs : List AV} {R : Nat → List AV} (a0 : H.tr.get j0 = some (.cells c0 none [.data 1 n (by8 y)])) (a1 : H.tr.get j1 = some (.cells c1 none lpZ)) (a2 : H.tr.get j2 = some (.cells c2 none [A])) (a3 : H.tr.get j3 = some (.cells c3 none [.bool true])) (a4 : H.tr.get j4 = some (.cells c4 none [x0, x1, x2, x3, x4, x5, x6, x7, x8, x9, x10, l'])) (a5 : seqAt H j5 = some (1, i, R))
    (hd : [c0, c1, c2, c3, c4, j5].Pairwise (· ≠ ·)) (hx : fitsA [some j0, some j1, some j2, some j3, some j4, some j5] bs xs) (hA : fitA [some j0, some j1, some j2, some j3, some j4, some j5] a A) (hl : fitA [some j0, some j1, some j2, some j3, some j4, some j5] (.gsl 5 i) l') (hR : ∀ j, j < i → nfs (R j) = true) : Fits [some j0, some j1, some j2, some j3, some j4, some j5] xs H bs (lpG n y a true (br (.gsl 5 i)) i R) :=
  fits6s a0 a1 a2 a3 a4 a5 hd hx hA (br_fit hl rfl) (Nat.le_refl _) fun j hj => ⟨rfl, hR j hj⟩
theorem no_st {n i : Nat} {y : Nat → Nat} {am : Int} (hA : AmOK (n8 (sh y 22)) am) (my : ¬ (stY y am).may i (pkI y)) (e : (i : Int) = n1 (sh y 46)) : ¬ isSt n y := fun h => by
  have h5 : n8 (sh y 22) - 1 ≤ 1152921504606846976 := h.2.2.2.2.2.2
  have e1 : am = n8 (sh y 22) - 1 := hA.1 (by omega)
  have e2 : i = (n1 (sh y 46)).toNat := by omega
  subst e1
  subst e2
  exact my h.2
theorem is_st {n i : Nat} {y : Nat → Nat} {am : Int} (hA : AmOK (n8 (sh y 22)) am) (my : (stY y am).may i (pkI y)) (e : (i : Int) = n1 (sh y 46)) (hn : n = 47 + i) : am = n8 (sh y 22) - 1 ∧ i = (n1 (sh y 46)).toNat ∧ isSt n y := by
  have e1 : am = n8 (sh y 22) - 1 := am_of hA my.2.2.2.2
  have e2 : i = (n1 (sh y 46)).toNat := by omega
  refine ⟨e1, e2, by omega, ?_⟩
  rw [← e1, ← e2]
  exact my
theorem tk_call {o lp : Nat → Bool} {n0 : Nat} {R : AV → List NewB → Prop} {t : T} {n : Nat} {y : Nat → Nat} {a : AV} {b : Bool} {k : Int} {R' : AV → List NewB → Prop} {j0 j1 j2 c0 c1 c2 : Nat} {cs1 : List AV} {s0 s1 s2 : Option (Nat × Nat × (Nat → List AV))} (hd : t.hd = .call 31 [.int .i64 k, .ptr j0 0, .ptr j1 0, .ptr j2 0])
    (hr : RunsM Tryz.prog 31 (tkG n y a b) [.int .i64 k, .ptr 0 0, .ptr 1 0, .ptr 2 0] R') (hb : Sv.look t.heap [j0, j1, j2] = [(some (.cells c0 none [.data 1 n (by8 y)]), s0), (some (.cells c1 none cs1), s1), (some (.cells c2 none [.bool b]), s2)]) (hc : c0 ≠ c1 ∧ c0 ≠ c2 ∧ c1 ≠ c2) (hj : j0 ≠ j1 ∧ j0 ≠ j2 ∧ j1 ≠ j2) (ha : alone t.heap [j0, j1, j2] = true)
    (h1 : fitsA [some j0, some j1, some j2] [a] cs1) (hk : ∀ x G, R' x G → (t.aftM [j0, j1, j2] x G).ok Tryz.prog o lp n0 R) : t.ok Tryz.prog o lp n0 R :=
  ok_callM3 (o0 := 0) (o1 := 0) (o2 := 0) hd hr hb hc hj ha ⟨⟨rfl, rfl⟩, ⟨rfl, rfl⟩, ⟨rfl, rfl⟩, ⟨rfl, rfl⟩, trivial⟩ ⟨⟨rfl, rfl⟩, trivial⟩ h1 ⟨⟨rfl, rfl⟩, trivial⟩ (by simp) (by simp) (by simp) hk
theorem fit1_n {ns : List (Option Nat)} {k : IntKind} {x : Int} : fitsA ns [.sint k x] [.sint k x] := ⟨fit_n, trivial⟩
theorem fit1_i {ns : List (Option Nat)} {k : IntKind} {x : Int} : fitsA ns [.sint k x] [.int k x] := ⟨fit_i, trivial⟩
theorem tget (n : Nat) (y : Nat → Nat) (hn : n ≤ 5000) : Runs Tryz.prog 10 [.data 1 n (by8 y)] fun x G => (isSt n y ∧ x = .tuple [.agg ((stY y (n8 (sh y 22) - 1)).row (.gsl 0 (n1 (sh y 46)).toNat)), .int .i64 0] ∧ G = [.seq 1 (n1 (sh y 46)).toNat (pk y)]) ∨ (¬ isSt n y ∧ x = .tuple [.agg lpZ, .int .i64 5] ∧ G = []) := by
  have hw1 : 9223372036854775808 ≤ n8 (sh y 22) → IntKind.i64.wrap (n8 (sh y 22)) = n8 (sh y 22) - 18446744073709551616 := fun h => by
    have := n8_bd (sh y 22)
    rw [IntKind.wrap_i64]
    omega
  have hw2 : n8 (sh y 22) = 9223372036854775808 → IntKind.i64.wrap (IntKind.i64.wrap (n8 (sh y 22)) - 1) = 9223372036854775807 := fun h => by
    rw [hw1 (by omega), h, IntKind.wrap_i64]
    omega
  have b46 := n1_bd (sh y 46)
  have b1 := n2_bd (sh y 1)
  have b3 := n2_bd (sh y 3)
  have b5 := n2_bd (sh y 5)
  have b7 := n4_bd (sh y 7)
  have b20 := n2_bd (sh y 20)
  have b22 := n8_bd (sh y 22)
  refine runs_treeF plain mixed (fun g => Nat.beq g 7 || Nat.beq g 31) (fun r => Nat.beq r 18) 60 ?_
  refine ok_sk (.stop [0, 2, 3]) (S := .stop (Hd.call 31 [.int .i64 1, .ptr 0 0, .ptr 2 0, .ptr 3 0]) [0, 2, 3] ([bk 0 [.data 1 n (by8 y)], bk 2 [.int .i64 0], bk 3 [.bool false]])) (by kernel_rfl) ?_
  refine hold_stop (fun hd hb => ?_)
  refine tk_call hd (tk1 n y _ hn ?_) hb (by decide) (by decide) (by kernel_rfl) fit1_n ?_
  focus omega
  rintro x G (⟨h, rfl, rfl⟩ | ⟨h, rfl, rfl⟩)
  ·
   refine ok_sk (.stop [0, 2, 3]) (S := .stop (Hd.call 31 [.int .i64 2, .ptr 0 0, .ptr 2 0, .ptr 3 0]) [0, 2, 3] ([bk 0 [.data 1 n (by8 y)], bk 2 [.sint .i64 (1 : Int)], bk 3 [.bool false]])) (by kernel_rfl) ?_
   refine hold_stop (fun hd hb => ?_)
   refine tk_call hd (tk2 n y _ hn ?_) hb (by decide) (by decide) (by kernel_rfl) fit1_n ?_
   focus omega
   rintro x G (⟨h, rfl, rfl⟩ | ⟨h, rfl, rfl⟩)
   ·
    refine ok_sk (.l (.l (.stop [0, 2, 3]))) (S := .left (decide ((-9223372036854775808 : Int) ≤ n2 (sh y 1) ∧ n2 (sh y 1) ≤ 9223372036854775807)) (.left (decide ((-9223372036854775808 : Int) ≤ n2 (sh y 1) - 1 ∧ n2 (sh y 1) - 1 ≤ 9223372036854775807)) (.stop (Hd.call 31 [.int .i64 2, .ptr 0 0, .ptr 2 0, .ptr 3 0]) [0, 2, 3] ([bk 0 [.data 1 n (by8 y)], bk 2 [.sint .i64 (3 : Int)], bk 3 [.bool false]])))) (by kernel_rfl) ?_
    refine hl (bc fun h2 => by omega) ?_
    refine hl (bc fun h2 => by omega) ?_
    refine hold_stop (fun hd hb => ?_)
    refine tk_call hd (tk2 n y _ hn ?_) hb (by decide) (by decide) (by kernel_rfl) fit1_n ?_
    focus omega
    rintro x G (⟨h, rfl, rfl⟩ | ⟨h, rfl, rfl⟩)
    ·
     refine ok_sk (.l (.l (.stop [0, 2, 3]))) (S := .left (decide ((-9223372036854775808 : Int) ≤ n2 (sh y 3) ∧ n2 (sh y 3) ≤ 9223372036854775807)) (.left (decide ((-9223372036854775808 : Int) ≤ n2 (sh y 3) - 1 ∧ n2 (sh y 3) - 1 ≤ 9223372036854775807)) (.stop (Hd.call 31 [.int .i64 2, .ptr 0 0, .ptr 2 0, .ptr 3 0]) [0, 2, 3] ([bk 0 [.data 1 n (by8 y)], bk 2 [.sint .i64 (5 : Int)], bk 3 [.bool false]])))) (by kernel_rfl) ?_
     refine hl (bc fun h3 => by omega) ?_
     refine hl (bc fun h3 => by omega) ?_
     refine hold_stop (fun hd hb => ?_)
     refine tk_call hd (tk2 n y _ hn ?_) hb (by decide) (by decide) (by kernel_rfl) fit1_n ?_
     focus omega
     rintro x G (⟨h, rfl, rfl⟩ | ⟨h, rfl, rfl⟩)
     ·
      refine ok_sk (.l (.l (.stop [0, 2, 3]))) (S := .left (decide ((-9223372036854775808 : Int) ≤ n2 (sh y 5) ∧ n2 (sh y 5) ≤ 9223372036854775807)) (.left (decide ((-9223372036854775808 : Int) ≤ n2 (sh y 5) - 1 ∧ n2 (sh y 5) - 1 ≤ 9223372036854775807)) (.stop (Hd.call 31 [.int .i64 4, .ptr 0 0, .ptr 2 0, .ptr 3 0]) [0, 2, 3] ([bk 0 [.data 1 n (by8 y)], bk 2 [.sint .i64 (7 : Int)], bk 3 [.bool false]])))) (by kernel_rfl) ?_
      refine hl (bc fun h4 => by omega) ?_
      refine hl (bc fun h4 => by omega) ?_
      refine hold_stop (fun hd hb => ?_)
      refine tk_call hd (tk4 n y _ hn ?_) hb (by decide) (by decide) (by kernel_rfl) fit1_n ?_
      focus omega
      rintro x G (⟨h, rfl, rfl⟩ | ⟨h, rfl, rfl⟩)
      ·
       refine ok_sk (.l (.l (.stop [0, 2, 3]))) (S := .left (decide ((-9223372036854775808 : Int) ≤ n4 (sh y 7) ∧ n4 (sh y 7) ≤ 9223372036854775807)) (.left (decide ((-9223372036854775808 : Int) ≤ n4 (sh y 7) - 1 ∧ n4 (sh y 7) - 1 ≤ 9223372036854775807)) (.stop (Hd.call 31 [.int .i64 1, .ptr 0 0, .ptr 2 0, .ptr 3 0]) [0, 2, 3] ([bk 0 [.data 1 n (by8 y)], bk 2 [.sint .i64 (11 : Int)], bk 3 [.bool false]])))) (by kernel_rfl) ?_
       refine hl (bc fun h5 => by omega) ?_
       refine hl (bc fun h5 => by omega) ?_
       refine hold_stop (fun hd hb => ?_)
       refine tk_call hd (tk1 n y _ hn ?_) hb (by decide) (by decide) (by kernel_rfl) fit1_n ?_
       focus omega
       rintro x G (⟨h, rfl, rfl⟩ | ⟨h, rfl, rfl⟩)
       ·
        refine ok_sk (.stop [0, 2, 3]) (S := .stop (Hd.call 31 [.int .i64 8, .ptr 0 0, .ptr 2 0, .ptr 3 0]) [0, 2, 3] ([bk 0 [.data 1 n (by8 y)], bk 2 [.sint .i64 (12 : Int)], bk 3 [.bool false]])) (by kernel_rfl) ?_
        refine hold_stop (fun hd hb => ?_)
        refine tk_call hd (tk8 n y _ hn ?_) hb (by decide) (by decide) (by kernel_rfl) fit1_n ?_
        focus omega
        rintro x G (⟨h, rfl, rfl⟩ | ⟨h, rfl, rfl⟩)
        ·
         refine ok_sk (.stop [0, 2, 3]) (S := .stop (Hd.call 31 [.int .i64 2, .ptr 0 0, .ptr 2 0, .ptr 3 0]) [0, 2, 3] ([bk 0 [.data 1 n (by8 y)], bk 2 [.sint .i64 (20 : Int)], bk 3 [.bool false]])) (by kernel_rfl) ?_
         refine hold_stop (fun hd hb => ?_)
         refine tk_call hd (tk2 n y _ hn ?_) hb (by decide) (by decide) (by kernel_rfl) fit1_n ?_
         focus omega
         rintro x G (⟨h, rfl, rfl⟩ | ⟨h, rfl, rfl⟩)
         ·
          refine ok_sk (.l (.l (.stop [0, 2, 3]))) (S := .left (decide ((-9223372036854775808 : Int) ≤ n2 (sh y 20) ∧ n2 (sh y 20) ≤ 9223372036854775807)) (.left (decide ((-9223372036854775808 : Int) ≤ n2 (sh y 20) - 1 ∧ n2 (sh y 20) - 1 ≤ 9223372036854775807)) (.stop (Hd.call 31 [.int .i64 8, .ptr 0 0, .ptr 2 0, .ptr 3 0]) [0, 2, 3] ([bk 0 [.data 1 n (by8 y)], bk 2 [.sint .i64 (22 : Int)], bk 3 [.bool false]])))) (by kernel_rfl) ?_
          refine hl (bc fun h8 => by omega) ?_
          refine hl (bc fun h8 => by omega) ?_
          refine hold_stop (fun hd hb => ?_)
          refine tk_call hd (tk8 n y _ hn ?_) hb (by decide) (by decide) (by kernel_rfl) fit1_n ?_
          focus omega
          rintro x G (⟨h, rfl, rfl⟩ | ⟨h, rfl, rfl⟩)
          ·
           refine ok_sk (.both (.l (.stop [0, 2, 3])) (.both (.stop [0, 2, 3]) (.stop [0, 2, 3]))) (S := .fork (decide ((-9223372036854775808 : Int) ≤ n8 (sh y 22) ∧ n8 (sh y 22) ≤ 9223372036854775807)) (.left (decide ((-9223372036854775808 : Int) ≤ n8 (sh y 22) - 1 ∧ n8 (sh y 22) - 1 ≤ 9223372036854775807)) (.stop (Hd.call 31 [.int .i64 8, .ptr 0 0, .ptr 2 0, .ptr 3 0]) [0, 2, 3] ([bk 0 [.data 1 n (by8 y)], bk 2 [.sint .i64 (30 : Int)], bk 3 [.bool false]]))) (.fork (decide ((-9223372036854775808 : Int) ≤ IntKind.i64.wrap (n8 (sh y 22)) - 1 ∧ IntKind.i64.wrap (n8 (sh y 22)) - 1 ≤ 9223372036854775807)) (.stop (Hd.call 31 [.int .i64 8, .ptr 0 0, .ptr 2 0, .ptr 3 0]) [0, 2, 3] ([bk 0 [.data 1 n (by8 y)], bk 2 [.sint .i64 (30 : Int)], bk 3 [.bool false]])) (.stop (Hd.call 31 [.int .i64 8, .ptr 0 0, .ptr 2 0, .ptr 3 0]) [0, 2, 3] ([bk 0 [.data 1 n (by8 y)], bk 2 [.sint .i64 (30 : Int)], bk 3 [.bool false]])))) (by kernel_rfl) ?_
           refine hold_forkD (fun h9 => ?_) (fun h9 => ?_)
           ·
            refine hl (bc fun h10 => by omega) ?_
            refine hold_stop (fun hd hb => ?_)
            refine tk_call hd (tk8 n y _ hn ?_) hb (by decide) (by decide) (by kernel_rfl) fit1_n ?_
            focus omega
            rintro x G (⟨h, rfl, rfl⟩ | ⟨h, rfl, rfl⟩)
            ·
             refine ok_sk (.stop [0, 2, 3]) (S := .stop (Hd.call 31 [.int .i64 8, .ptr 0 0, .ptr 2 0, .ptr 3 0]) [0, 2, 3] ([bk 0 [.data 1 n (by8 y)], bk 2 [.sint .i64 (38 : Int)], bk 3 [.bool false]])) (by kernel_rfl) ?_
             refine hold_stop (fun hd hb => ?_)
             refine tk_call hd (tk8 n y _ hn ?_) hb (by decide) (by decide) (by kernel_rfl) fit1_n ?_
             focus omega
             rintro x G (⟨h, rfl, rfl⟩ | ⟨h, rfl, rfl⟩)
             ·
              refine ok_sk (.stop [0, 2, 3]) (S := .stop (Hd.call 31 [.int .i64 1, .ptr 0 0, .ptr 2 0, .ptr 3 0]) [0, 2, 3] ([bk 0 [.data 1 n (by8 y)], bk 2 [.sint .i64 (46 : Int)], bk 3 [.bool false]])) (by kernel_rfl) ?_
              refine hold_stop (fun hd hb => ?_)
              refine tk_call hd (tk1 n y _ hn ?_) hb (by decide) (by decide) (by kernel_rfl) fit1_n ?_
              focus omega
              rintro x G (⟨h, rfl, rfl⟩ | ⟨h, rfl, rfl⟩)
              ·
               refine ok_sk (.stop [0, 1, 2, 3, 4, 8]) (S := .stop (Hd.loop 43 [.data 1 n (by8 y), .ptr 0 0, .ptr 1 0, .int .i64 0, .ptr 2 0, .ptr 3 0, fT, .ptr 4 0, .tuple [], .ptr 4 8, fT, fT, .sint .u64 (n1 (sh y 0)), .sint .u8 (n1 (sh y 0) % 256), .ptr 4 0, .ptr 4 1, .ptr 4 9, .ptr 4 8, .slice 8 0 3 3 true, .int .i64 3, .int .i64 3, .bool false, .ptr 8 2, .ptr 4 8, .ptr 4 8, fT, .sint .u64 (n2 (sh y 5)), .sint .i64 (n2 (sh y 5)), m2 y 5, .ptr 4 8, .int .i64 3, fT, .sint .u64 (n4 (sh y 7)), .sint .i64 (n4 (sh y 7)), m4 y 7, .ptr 4 10, fT, .sint .u64 (n1 (sh y 11)), .sint .u8 (n1 (sh y 11) % 256), .ptr 4 2, .ptr 4 2, fT, q8 y 12, .ptr 4 2, .ptr 4 3, fT, .sint .u64 (n2 (sh y 20)), .sint .i64 (n2 (sh y 20)), m2 y 20, .ptr 4 2, .ptr 4 4, fT, q8 y 22, .sint .i64 (n8 (sh y 22)), .sint .i64 (n8 (sh y 22) - 1), .ptr 4 2, .ptr 4 5, fT, q8 y 30, .ptr 4 2, .ptr 4 6, fT, q8 y 38, .ptr 4 2, .ptr 4 7, fT, .sint .u64 (n1 (sh y 46)), .int .u64 0, .tuple [], .tuple [], .tuple [], .tuple [], .tuple [], .tuple [], .tuple [], .tuple [], .tuple [], .tuple [], .tuple [], .tuple [], .tuple [], .tuple [], .tuple [], .tuple [], .tuple [], .tuple [], .tuple [], .tuple [], .tuple [], .tuple [], .tuple [], .tuple [], .tuple []]) [0, 1, 2, 3, 4, 8] ([bk 0 [.data 1 n (by8 y)], bk 1 lpZ, bk 2 [.sint .i64 (47 : Int)], bk 3 [.bool false], bk 4 [.sint .u8 (n1 (sh y 0) % 256), m2 y 1, .sint .u8 (n1 (sh y 11) % 256), q8 y 12, m2 y 20, .sint .i64 (n8 (sh y 22) - 1), q8 y 30, q8 y 38, m2 y 5, m2 y 3, m4 y 7, .nilSlice], bk 8 [.ptr 4 1, .ptr 4 9, .ptr 4 8]])) (by kernel_rfl) ?_
               refine hold_stop (fun hd hb => ?_)
               refine ok_loop hd (X := GS n y ⊕ BS n y) gT gG gM [some 0, some 1, some 2, some 3, some 4, none] (.inl ⟨0, n8 (sh y 22) - 1, ?_, ?_⟩) (fits6n (look_get hb 0 rfl rfl).1 (look_get hb 1 rfl rfl).1 (look_get hb 2 rfl rfl).1 (look_get hb 3 rfl rfl).1 (look_get hb 4 rfl rfl).1 (by decide) (lpT_fit fit_n fit_i) ⟨rfl, rfl⟩ (gr_fit fit_nil rfl)) ?_
               focus omega
               focus exact ⟨fun h => by omega, fun h => by omega⟩
               rintro (⟨i, am, k, hA⟩ | ⟨i, a0, c, R, k, hr⟩)
               all_goals (have bi := n1_bd (sh y (47 + (i : Int)).toNat))
               ·
                refine ok_sk (.both (.stop [0, 2, 3]) (.both (.stop [5]) (.stop []))) (S := .fork (decide ((↑i : Int) < n1 (sh y 46))) (.stop (Hd.call 31 [.int .i64 1, .ptr 0 0, .ptr 2 0, .ptr 3 0]) [0, 2, 3] ([bk 0 [.data 1 n (by8 y)], bk 2 [.sint .i64 ((47 : Int) + (↑i : Int))], bk 3 [.bool false]])) (.fork (decide ((47 : Int) + (↑i : Int) = (↑n : Int))) (.stop (Hd.call 7 [.agg [.sint .u8 (n1 (sh y 0) % 256), .sint .i64 (n2 (sh y 1) - 1), .sint .u8 (n1 (sh y 11) % 256), .sint .u64 (n8 (sh y 12)), .sint .i64 (n2 (sh y 20) - 1), .sint .i64 am, .sint .u64 (n8 (sh y 30)), .sint .u64 (n8 (sh y 38)), .sint .i64 (n2 (sh y 5) - 1), .sint .i64 (n2 (sh y 3) - 1), .sint .i64 (n4 (sh y 7) - 1), .gsl 5 i]]) [5] ([(some (Blk.seq 5 1 i (pk y)), some (1, i, pk y))])) (.stop (Hd.leaf (.tuple [.agg lpZ, .int .i64 5])) [] ([])))) (by kernel_rfl) ?_
                refine hold_forkD (fun h14 => ?_) (fun h14 => ?_)
                ·
                 refine hold_stop (fun hd hb => ?_)
                 refine tk_call hd (tk1 n y _ hn ?_) hb (by decide) (by decide) (by kernel_rfl) fit1_n ?_
                 focus omega
                 rintro x G (⟨h, rfl, rfl⟩ | ⟨h, rfl, rfl⟩)
                 ·
                  refine ok_sk (.l (.l (.l (.l (.l (.l (.l (.l (.l (.l (.l (.l (.stop [0, 1, 2, 3, 4, 5, 9, 10]))))))))))))) (S := .left (decide (i = i)) (.left (decide ((-9223372036854775808 : Int) ≤ n1 (sh y ((47 : Int) + (↑i : Int)).toNat) ∧ n1 (sh y ((47 : Int) + (↑i : Int)).toNat) ≤ 9223372036854775807)) (.left (decide ((-9223372036854775808 : Int) ≤ n1 (sh y ((47 : Int) + (↑i : Int)).toNat) - 1 ∧ n1 (sh y ((47 : Int) + (↑i : Int)).toNat) - 1 ≤ 9223372036854775807)) (.left (decide (n1 (sh y ((47 : Int) + (↑i : Int)).toNat) - 1 = n1 (sh y ((47 : Int) + (↑i : Int)).toNat) - 1)) (.left (decide ((-9223372036854775808 : Int) ≤ n1 (sh y ((47 : Int) + (↑i : Int)).toNat) - 1 ∧ n1 (sh y ((47 : Int) + (↑i : Int)).toNat) - 1 ≤ 9223372036854775807)) (.left (decide (n1 (sh y ((47 : Int) + (↑i : Int)).toNat) - 1 = n1 (sh y ((47 : Int) + (↑i : Int)).toNat) - 1)) (.left (decide ((-9223372036854775808 : Int) ≤ n1 (sh y ((47 : Int) + (↑i : Int)).toNat) ∧ n1 (sh y ((47 : Int) + (↑i : Int)).toNat) ≤ 9223372036854775807)) (.left (decide (n1 (sh y ((47 : Int) + (↑i : Int)).toNat) = n1 (sh y ((47 : Int) + (↑i : Int)).toNat))) (.left (decide (i = i)) (.left (@decide (1 < 65536 ∧ RowsOK 1 1 fun (i_1 : Nat) => List.take 1 (List.drop (i_1 * 1) [.sint .i64 (n1 (sh y ((47 : Int) + (↑i : Int)).toNat) - 1)])) pd) (.left (decide (i ≤ i ∧ i < 65536)) (.left (decide (0 ≤ (↑i : Int) + 1 ∧ (↑i : Int) + 1 ≤ 18446744073709551615)) (.stop (Hd.again (again' gT gG gM (Sum.inl { i := i, am := am, k := k, ha := hA })) [.top, .ptr 0 0, .ptr 1 0, .top, .ptr 2 0, .ptr 3 0, fT, .ptr 4 0, .top, .top, .top, .top, .top, .top, .top, .top, .top, .top, .top, .top, .top, .top, .top, .top, .top, .top, .top, .top, .top, .top, .top, .top, .top, .top, .top, .top, .top, .top, .top, .top, .top, .top, .top, .top, .top, .top, .top, .top, .top, .top, .top, .top, .top, .top, .top, .top, .top, .top, .top, .top, .top, .top, .top, .top, .top, .top, .sint .u64 (n1 (sh y 46)), .sint .u64 ((↑i : Int) + 1), .bool true, .ptr 4 11, .gsl 5 i, fT, .sint .u64 (n1 (sh y ((47 : Int) + (↑i : Int)).toNat)), .sint .i64 (n1 (sh y ((47 : Int) + (↑i : Int)).toNat)), .sint .i64 (n1 (sh y ((47 : Int) + (↑i : Int)).toNat) - 1), .slice 9 0 1 1 true, .gsl 10 (i + 1), .ptr 4 11, .sint .u64 ((↑i : Int) + 1), .top, .top, .top, .top, .top, .top, .top, .top, .top, .top, .top, .top, .top, .top]) [0, 1, 2, 3, 4, 5, 9, 10] ([bk 0 [.data 1 n (by8 y)], bk 1 lpZ, bk 2 [.sint .i64 ((47 : Int) + (↑i : Int) + 1)], bk 3 [.bool false], bk 4 [.sint .u8 (n1 (sh y 0) % 256), m2 y 1, .sint .u8 (n1 (sh y 11) % 256), q8 y 12, m2 y 20, .sint .i64 am, q8 y 30, q8 y 38, m2 y 5, m2 y 3, m4 y 7, .gsl 10 (i + 1)], (some Blk.dead, none), bk 9 [.sint .i64 (n1 (sh y ((47 : Int) + (↑i : Int)).toNat) - 1)], (some (Blk.seq 10 1 (i + 1) (glue i (pk y) fun (i_1 : Nat) => List.take 1 (List.drop (i_1 * 1) [.sint .i64 (n1 (sh y ((47 : Int) + (↑i : Int)).toNat) - 1)]))), some (1, i + 1, glue i (pk y) fun (i_1 : Nat) => List.take 1 (List.drop (i_1 * 1) [.sint .i64 (n1 (sh y ((47 : Int) + (↑i : Int)).toNat) - 1)])))])))))))))))))) (by kernel_rfl) ?_
                  refine hl (bc fun h16 => by omega) ?_
                  refine hl (bc fun h16 => by omega) ?_
                  refine hl (bc fun h16 => by omega) ?_
                  refine hl (bc fun h16 => by omega) ?_
                  refine hl (bc fun h16 => by omega) ?_
                  refine hl (bc fun h16 => by omega) ?_
                  refine hl (bc fun h16 => by omega) ?_
                  refine hl (bc fun h16 => by omega) ?_
                  refine hl (bc fun h16 => by omega) ?_
                  refine hl (bc fun h16 => by exact h16 ⟨by omega, fun j hj => by obtain rfl : j = 0 := (by omega); exact ⟨rfl, rfl⟩⟩) ?_
                  refine hl (bc fun h16 => by omega) ?_
                  refine hl (bc fun h16 => by omega) ?_
                  refine hold_stop (fun hd hb => ?_)
                  refine ok_again hd [some 0, some 1, some 2, some 3, some 4, some 10] (.inl ⟨i + 1, am, ?_, hA⟩) ?_ (fits6s (look_get hb 0 rfl rfl).1 (look_get hb 1 rfl rfl).1 (look_get hb 2 rfl rfl).1 (look_get hb 3 rfl rfl).1 (look_get hb 4 rfl rfl).1 (look_get hb 7 rfl rfl).2 (by decide) (lpT_fit fit_n ⟨rfl, rfl⟩) ⟨rfl, ?_⟩ (gr_fit (fit_g rfl) rfl) (Nat.le_refl _) (pk_glue ?_))
                  · omega
                  · show (n1 (sh y 46) - ((i + 1 : Nat) : Int)).toNat < (n1 (sh y 46) - (i : Int)).toNat
                    omega
                  · show 47 + ((i + 1 : Nat) : Int) = 47 + (i : Int) + 1
                    omega
                  · show [AV.sint .i64 (n1 (sh y (47 + (i : Int)).toNat) - 1)] = pk y i
                    rw [show (47 + (i : Int)).toNat = 47 + i by omega]
                    rfl
                 refine ok_sk (.l (.l (.l (.l (.l (.stop [0, 1, 2, 3, 4, 5, 9, 10])))))) (S := .left (decide (i = i)) (.left (decide (i = i)) (.left (@decide (1 < 65536 ∧ RowsOK 1 1 fun (i : Nat) => List.take 1 (List.drop (i * 1) [.int .i64 (Int.negSucc 0)])) pd) (.left (decide (i ≤ i ∧ i < 65536)) (.left (decide (0 ≤ (↑i : Int) + 1 ∧ (↑i : Int) + 1 ≤ 18446744073709551615)) (.stop (Hd.again (again' gT gG gM (Sum.inl { i := i, am := am, k := k, ha := hA })) [.top, .ptr 0 0, .ptr 1 0, .top, .ptr 2 0, .ptr 3 0, fT, .ptr 4 0, .top, .top, .top, .top, .top, .top, .top, .top, .top, .top, .top, .top, .top, .top, .top, .top, .top, .top, .top, .top, .top, .top, .top, .top, .top, .top, .top, .top, .top, .top, .top, .top, .top, .top, .top, .top, .top, .top, .top, .top, .top, .top, .top, .top, .top, .top, .top, .top, .top, .top, .top, .top, .top, .top, .top, .top, .top, .top, .sint .u64 (n1 (sh y 46)), .sint .u64 ((↑i : Int) + 1), .bool true, .ptr 4 11, .gsl 5 i, fT, .int .u64 0, .int .i64 0, .int .i64 (Int.negSucc 0), .slice 9 0 1 1 true, .gsl 10 (i + 1), .ptr 4 11, .sint .u64 ((↑i : Int) + 1), .top, .top, .top, .top, .top, .top, .top, .top, .top, .top, .top, .top, .top, .top]) [0, 1, 2, 3, 4, 5, 9, 10] ([bk 0 [.data 1 n (by8 y)], bk 1 lpZ, bk 2 [.sint .i64 (0 : Int)], bk 3 [.bool true], bk 4 [.sint .u8 (n1 (sh y 0) % 256), m2 y 1, .sint .u8 (n1 (sh y 11) % 256), q8 y 12, m2 y 20, .sint .i64 am, q8 y 30, q8 y 38, m2 y 5, m2 y 3, m4 y 7, .gsl 10 (i + 1)], (some Blk.dead, none), bk 9 [.int .i64 (Int.negSucc 0)], (some (Blk.seq 10 1 (i + 1) (glue i (pk y) fun (i : Nat) => List.take 1 (List.drop (i * 1) [.int .i64 (Int.negSucc 0)]))), some (1, i + 1, glue i (pk y) fun (i : Nat) => List.take 1 (List.drop (i * 1) [.int .i64 (Int.negSucc 0)])))]))))))) (by kernel_rfl) ?_
                 refine hl (bc fun h16 => by omega) ?_
                 refine hl (bc fun h16 => by omega) ?_
                 refine hl (bc fun h16 => by exact h16 ⟨by omega, fun j hj => by obtain rfl : j = 0 := (by omega); exact ⟨rfl, rfl⟩⟩) ?_
                 refine hl (bc fun h16 => by omega) ?_
                 refine hl (bc fun h16 => by omega) ?_
                 refine hold_stop (fun hd hb => ?_)
                 have hn := fun j hj => (nfs_glue (i := i) (R := pk y) (g := fun q => List.take 1 (List.drop (q * 1) [AV.int .i64 (-1)])) (mem_pk rfl) rfl j hj).2
                 refine ok_again hd [some 0, some 1, some 2, some 3, some 4, some 10] (.inr ⟨i + 1, _, n1 (sh y 46), _, ?_, hn⟩) ?_ (fits6b (look_get hb 0 rfl rfl).1 (look_get hb 1 rfl rfl).1 (look_get hb 2 rfl rfl).1 (look_get hb 3 rfl rfl).1 (look_get hb 4 rfl rfl).1 (look_get hb 7 rfl rfl).2 (by decide) (lpT_fit fit_n ⟨rfl, rfl⟩) fit_n (fit_g rfl) hn)
                 · omega
                 · show (n1 (sh y 46) - ((i + 1 : Nat) : Int)).toNat < (n1 (sh y 46) - (i : Int)).toNat
                   omega
                refine hold_forkD (fun h15 => ?_) (fun h15 => ?_)
                ·
                 refine hold_stop (fun hd hb => ?_)
                 refine ok_call hd (tmay (stY y am) i (pkI y) (by omega) (by show 0 ≤ n1 (sh y 0) % 256; omega)) (st_view (s := stY y am) (look_get hb 0 rfl rfl).2 (Nat.le_refl _) (fun j hj => rfl)) ?_
                 rintro x G ⟨rfl, ⟨rfl, my⟩ | ⟨rfl, my⟩⟩ <;> refine ⟨rfl, fun g hg => (by cases hg), ?_⟩
                 ·
                  refine ok_sk (.stop [5]) (S := .stop (Hd.leaf (.tuple [.agg [.sint .u8 (n1 (sh y 0) % 256), .sint .i64 (n2 (sh y 1) - 1), .sint .u8 (n1 (sh y 11) % 256), .sint .u64 (n8 (sh y 12)), .sint .i64 (n2 (sh y 20) - 1), .sint .i64 am, .sint .u64 (n8 (sh y 30)), .sint .u64 (n8 (sh y 38)), .sint .i64 (n2 (sh y 5) - 1), .sint .i64 (n2 (sh y 3) - 1), .sint .i64 (n4 (sh y 7) - 1), .gsl 5 i], .int .i64 0])) [5] ([(some (Blk.seq 5 1 i (pk y)), some (1, i, pk y))])) (by kernel_rfl) ?_
                  refine hold_stop (fun hd hb => ?_)
                  obtain ⟨e1, e2, hs⟩ := is_st (n := n) hA my (by omega) (by omega)
                  subst e1
                  subst e2
                  exact ok_leafG hd hb (y := .tuple [.agg ((stY y (n8 (sh y 22) - 1)).row (.gsl 0 (n1 (sh y 46)).toNat)), .int .i64 0]) (by simp [StI.row, stY, fitA, fitsA, nf]) (Nat.le_refl _) (fun j hj => ⟨rfl, rfl⟩) (.inl ⟨hs, rfl, rfl⟩)
                 refine ok_sk (.stop []) (S := .stop (Hd.leaf (.tuple [.agg lpZ, .int .i64 5])) [] ([])) (by kernel_rfl) ?_
                 refine hold_stop (fun hd hb => ?_)
                 exact ok_leaf0 hd rfl (.inr ⟨no_st hA my (by omega), rfl, rfl⟩)
                refine hold_stop (fun hd hb => ?_)
                exact ok_leaf0 hd rfl (.inr ⟨fun h => by have := h.1; omega, rfl, rfl⟩)
               refine ok_sk (.both (.stop [0, 2, 3]) (.stop [])) (S := .fork (decide ((↑i : Int) < c)) (.stop (Hd.call 31 [.int .i64 1, .ptr 0 0, .ptr 2 0, .ptr 3 0]) [0, 2, 3] ([bk 0 [.data 1 n (by8 y)], bk 2 [.sint .i64 a0], bk 3 [.bool true]])) (.stop (Hd.leaf (.tuple [.agg lpZ, .int .i64 5])) [] ([]))) (by kernel_rfl) ?_
               refine hold_forkD (fun h14 => ?_) (fun h14 => ?_)
               ·
                refine hold_stop (fun hd hb => ?_)
                have hz := hr
                refine tk_call hd (tb1 n y _ hn ?_) hb (by decide) (by decide) (by kernel_rfl) fit1_n ?_
                focus omega
                rintro x G ⟨a, v, ha, ha1, hv, hv1, rfl, rfl⟩
                clear hz
                refine ok_sk (.l (.l (.l (.l (.l (.l (.l (.l (.l (.l (.l (.l (.stop [0, 1, 2, 3, 4, 5, 9, 10]))))))))))))) (S := .left (decide (i = i)) (.left (decide ((-9223372036854775808 : Int) ≤ v ∧ v ≤ 9223372036854775807)) (.left (decide ((-9223372036854775808 : Int) ≤ v - 1 ∧ v - 1 ≤ 9223372036854775807)) (.left (decide (v - 1 = v - 1)) (.left (decide ((-9223372036854775808 : Int) ≤ v - 1 ∧ v - 1 ≤ 9223372036854775807)) (.left (decide (v - 1 = v - 1)) (.left (decide ((-9223372036854775808 : Int) ≤ v ∧ v ≤ 9223372036854775807)) (.left (decide (v = v)) (.left (decide (i = i)) (.left (@decide (1 < 65536 ∧ RowsOK 1 1 fun (i : Nat) => List.take 1 (List.drop (i * 1) [.sint .i64 (v - 1)])) pd) (.left (decide (i ≤ i ∧ i < 65536)) (.left (decide (0 ≤ (↑i : Int) + 1 ∧ (↑i : Int) + 1 ≤ 18446744073709551615)) (.stop (Hd.again (again' gT gG gM (Sum.inr { i := i, a := a0, c := c, R := R, k := k, hr := hr })) [.top, .ptr 0 0, .ptr 1 0, .top, .ptr 2 0, .ptr 3 0, fT, .ptr 4 0, .top, .top, .top, .top, .top, .top, .top, .top, .top, .top, .top, .top, .top, .top, .top, .top, .top, .top, .top, .top, .top, .top, .top, .top, .top, .top, .top, .top, .top, .top, .top, .top, .top, .top, .top, .top, .top, .top, .top, .top, .top, .top, .top, .top, .top, .top, .top, .top, .top, .top, .top, .top, .top, .top, .top, .top, .top, .top, .sint .u64 c, .sint .u64 ((↑i : Int) + 1), .bool true, .ptr 4 11, .gsl 5 i, fT, .sint .u64 v, .sint .i64 v, .sint .i64 (v - 1), .slice 9 0 1 1 true, .gsl 10 (i + 1), .ptr 4 11, .sint .u64 ((↑i : Int) + 1), .top, .top, .top, .top, .top, .top, .top, .top, .top, .top, .top, .top, .top, .top]) [0, 1, 2, 3, 4, 5, 9, 10] ([bk 0 [.data 1 n (by8 y)], bk 1 lpZ, bk 2 [.sint .i64 a], bk 3 [.bool true], bk 4 [.top, .top, .top, .top, .top, .top, .top, .top, .top, .top, .top, .gsl 10 (i + 1)], (some Blk.dead, none), bk 9 [.sint .i64 (v - 1)], (some (Blk.seq 10 1 (i + 1) (glue i R fun (i : Nat) => List.take 1 (List.drop (i * 1) [.sint .i64 (v - 1)]))), some (1, i + 1, glue i R fun (i : Nat) => List.take 1 (List.drop (i * 1) [.sint .i64 (v - 1)])))])))))))))))))) (by kernel_rfl) ?_
                refine hl (bc fun h16 => by omega) ?_
                refine hl (bc fun h16 => by omega) ?_
                refine hl (bc fun h16 => by omega) ?_
                refine hl (bc fun h16 => by omega) ?_
                refine hl (bc fun h16 => by omega) ?_
                refine hl (bc fun h16 => by omega) ?_
                refine hl (bc fun h16 => by omega) ?_
                refine hl (bc fun h16 => by omega) ?_
                refine hl (bc fun h16 => by omega) ?_
                refine hl (bc fun h16 => by exact h16 ⟨by omega, fun j hj => by obtain rfl : j = 0 := (by omega); exact ⟨rfl, rfl⟩⟩) ?_
                refine hl (bc fun h16 => by omega) ?_
                refine hl (bc fun h16 => by omega) ?_
                refine hold_stop (fun hd hb => ?_)
                have hn := fun j hj => (nfs_glue (i := i) (R := R) (g := fun q => List.take 1 (List.drop (q * 1) [AV.sint .i64 (v - 1)])) hr rfl j hj).2
                refine ok_again hd [some 0, some 1, some 2, some 3, some 4, some 10] (.inr ⟨i + 1, _, c, _, ?_, hn⟩) ?_ (fits6b (look_get hb 0 rfl rfl).1 (look_get hb 1 rfl rfl).1 (look_get hb 2 rfl rfl).1 (look_get hb 3 rfl rfl).1 (look_get hb 4 rfl rfl).1 (look_get hb 7 rfl rfl).2 (by decide) (lpT_fit fit_n ⟨rfl, rfl⟩) fit_n (fit_g rfl) hn)
                · omega
                · show (c - ((i + 1 : Nat) : Int)).toNat < (c - (i : Int)).toNat
                  omega
               refine hold_stop (fun hd hb => ?_)
               exact ok_leaf0 hd rfl (.inr ⟨fun h => by have := h.1; omega, rfl, rfl⟩)
              refine ok_sk (.stop [0, 1, 2, 3, 4, 8]) (S := .stop (Hd.loop 43 [.data 1 n (by8 y), .ptr 0 0, .ptr 1 0, .int .i64 0, .ptr 2 0, .ptr 3 0, fT, .ptr 4 0, .tuple [], .ptr 4 8, fT, fT, .sint .u64 (n1 (sh y 0)), .sint .u8 (n1 (sh y 0) % 256), .ptr 4 0, .ptr 4 1, .ptr 4 9, .ptr 4 8, .slice 8 0 3 3 true, .int .i64 3, .int .i64 3, .bool false, .ptr 8 2, .ptr 4 8, .ptr 4 8, fT, .sint .u64 (n2 (sh y 5)), .sint .i64 (n2 (sh y 5)), m2 y 5, .ptr 4 8, .int .i64 3, fT, .sint .u64 (n4 (sh y 7)), .sint .i64 (n4 (sh y 7)), m4 y 7, .ptr 4 10, fT, .sint .u64 (n1 (sh y 11)), .sint .u8 (n1 (sh y 11) % 256), .ptr 4 2, .ptr 4 2, fT, q8 y 12, .ptr 4 2, .ptr 4 3, fT, .sint .u64 (n2 (sh y 20)), .sint .i64 (n2 (sh y 20)), m2 y 20, .ptr 4 2, .ptr 4 4, fT, q8 y 22, .sint .i64 (n8 (sh y 22)), .sint .i64 (n8 (sh y 22) - 1), .ptr 4 2, .ptr 4 5, fT, q8 y 30, .ptr 4 2, .ptr 4 6, fT, q8 y 38, .ptr 4 2, .ptr 4 7, fT, .int .u64 0, .int .u64 0, .tuple [], .tuple [], .tuple [], .tuple [], .tuple [], .tuple [], .tuple [], .tuple [], .tuple [], .tuple [], .tuple [], .tuple [], .tuple [], .tuple [], .tuple [], .tuple [], .tuple [], .tuple [], .tuple [], .tuple [], .tuple [], .tuple [], .tuple [], .tuple [], .tuple []]) [0, 1, 2, 3, 4, 8] ([bk 0 [.data 1 n (by8 y)], bk 1 lpZ, bk 2 [.sint .i64 (0 : Int)], bk 3 [.bool true], bk 4 [.sint .u8 (n1 (sh y 0) % 256), m2 y 1, .sint .u8 (n1 (sh y 11) % 256), q8 y 12, m2 y 20, .sint .i64 (n8 (sh y 22) - 1), q8 y 30, q8 y 38, m2 y 5, m2 y 3, m4 y 7, .nilSlice], bk 8 [.ptr 4 1, .ptr 4 9, .ptr 4 8]])) (by kernel_rfl) ?_
              refine hold_stop (fun hd hb => ?_)
              refine ok_loop hd (X := BS n y) bT bG bM [some 0, some 1, some 2, some 3, some 4, none] ⟨0, _, _, fun _ => [], ?_, fun j hj => absurd hj (Nat.not_lt_zero j)⟩ (fits6n (look_get hb 0 rfl rfl).1 (look_get hb 1 rfl rfl).1 (look_get hb 2 rfl rfl).1 (look_get hb 3 rfl rfl).1 (look_get hb 4 rfl rfl).1 (by decide) (lpT_fit fit_i fit_i) fit_n (br_fit fit_nil rfl)) ?_
              focus omega
              rintro ⟨i, a0, c, R, k, hr⟩
              refine ok_sk (.both (.stop [0, 2, 3]) (.stop [])) (S := .fork (decide ((↑i : Int) < c)) (.stop (Hd.call 31 [.int .i64 1, .ptr 0 0, .ptr 2 0, .ptr 3 0]) [0, 2, 3] ([bk 0 [.data 1 n (by8 y)], bk 2 [.sint .i64 a0], bk 3 [.bool true]])) (.stop (Hd.leaf (.tuple [.agg lpZ, .int .i64 5])) [] ([]))) (by kernel_rfl) ?_
              refine hold_forkD (fun h14 => ?_) (fun h14 => ?_)
              ·
               refine hold_stop (fun hd hb => ?_)
               have hz := hr
               refine tk_call hd (tb1 n y _ hn ?_) hb (by decide) (by decide) (by kernel_rfl) fit1_n ?_
               focus omega
               rintro x G ⟨a, v, ha, ha1, hv, hv1, rfl, rfl⟩
               clear hz
               refine ok_sk (.l (.l (.l (.l (.l (.l (.l (.l (.l (.l (.l (.l (.stop [0, 1, 2, 3, 4, 5, 9, 10]))))))))))))) (S := .left (decide (i = i)) (.left (decide ((-9223372036854775808 : Int) ≤ v ∧ v ≤ 9223372036854775807)) (.left (decide ((-9223372036854775808 : Int) ≤ v - 1 ∧ v - 1 ≤ 9223372036854775807)) (.left (decide (v - 1 = v - 1)) (.left (decide ((-9223372036854775808 : Int) ≤ v - 1 ∧ v - 1 ≤ 9223372036854775807)) (.left (decide (v - 1 = v - 1)) (.left (decide ((-9223372036854775808 : Int) ≤ v ∧ v ≤ 9223372036854775807)) (.left (decide (v = v)) (.left (decide (i = i)) (.left (@decide (1 < 65536 ∧ RowsOK 1 1 fun (i : Nat) => List.take 1 (List.drop (i * 1) [.sint .i64 (v - 1)])) pd) (.left (decide (i ≤ i ∧ i < 65536)) (.left (decide (0 ≤ (↑i : Int) + 1 ∧ (↑i : Int) + 1 ≤ 18446744073709551615)) (.stop (Hd.again (again' bT bG bM { i := i, a := a0, c := c, R := R, k := k, hr := hr }) [.top, .ptr 0 0, .ptr 1 0, .top, .ptr 2 0, .ptr 3 0, fT, .ptr 4 0, .top, .top, .top, .top, .top, .top, .top, .top, .top, .top, .top, .top, .top, .top, .top, .top, .top, .top, .top, .top, .top, .top, .top, .top, .top, .top, .top, .top, .top, .top, .top, .top, .top, .top, .top, .top, .top, .top, .top, .top, .top, .top, .top, .top, .top, .top, .top, .top, .top, .top, .top, .top, .top, .top, .top, .top, .top, .top, .sint .u64 c, .sint .u64 ((↑i : Int) + 1), .bool true, .ptr 4 11, .gsl 5 i, fT, .sint .u64 v, .sint .i64 v, .sint .i64 (v - 1), .slice 9 0 1 1 true, .gsl 10 (i + 1), .ptr 4 11, .sint .u64 ((↑i : Int) + 1), .top, .top, .top, .top, .top, .top, .top, .top, .top, .top, .top, .top, .top, .top]) [0, 1, 2, 3, 4, 5, 9, 10] ([bk 0 [.data 1 n (by8 y)], bk 1 lpZ, bk 2 [.sint .i64 a], bk 3 [.bool true], bk 4 [.top, .top, .top, .top, .top, .top, .top, .top, .top, .top, .top, .gsl 10 (i + 1)], (some Blk.dead, none), bk 9 [.sint .i64 (v - 1)], (some (Blk.seq 10 1 (i + 1) (glue i R fun (i : Nat) => List.take 1 (List.drop (i * 1) [.sint .i64 (v - 1)]))), some (1, i + 1, glue i R fun (i : Nat) => List.take 1 (List.drop (i * 1) [.sint .i64 (v - 1)])))])))))))))))))) (by kernel_rfl) ?_
               refine hl (bc fun h16 => by omega) ?_
               refine hl (bc fun h16 => by omega) ?_
               refine hl (bc fun h16 => by omega) ?_
               refine hl (bc fun h16 => by omega) ?_
               refine hl (bc fun h16 => by omega) ?_
               refine hl (bc fun h16 => by omega) ?_
               refine hl (bc fun h16 => by omega) ?_
               refine hl (bc fun h16 => by omega) ?_
               refine hl (bc fun h16 => by omega) ?_
               refine hl (bc fun h16 => by exact h16 ⟨by omega, fun j hj => by obtain rfl : j = 0 := (by omega); exact ⟨rfl, rfl⟩⟩) ?_
               refine hl (bc fun h16 => by omega) ?_
               refine hl (bc fun h16 => by omega) ?_
               refine hold_stop (fun hd hb => ?_)
               have hn := fun j hj => (nfs_glue (i := i) (R := R) (g := fun q => List.take 1 (List.drop (q * 1) [AV.sint .i64 (v - 1)])) hr rfl j hj).2
               refine ok_again hd [some 0, some 1, some 2, some 3, some 4, some 10] ⟨i + 1, _, c, _, ?_, hn⟩ ?_ (fits6b (look_get hb 0 rfl rfl).1 (look_get hb 1 rfl rfl).1 (look_get hb 2 rfl rfl).1 (look_get hb 3 rfl rfl).1 (look_get hb 4 rfl rfl).1 (look_get hb 7 rfl rfl).2 (by decide) (lpT_fit fit_n ⟨rfl, rfl⟩) fit_n (fit_g rfl) hn)
               · omega
               · show (c - ((i + 1 : Nat) : Int)).toNat < (c - (i : Int)).toNat
                 omega
              refine hold_stop (fun hd hb => ?_)
              exact ok_leaf0 hd rfl (.inr ⟨fun h => by have := h.1; omega, rfl, rfl⟩)
             refine ok_sk (.stop [0, 2, 3]) (S := .stop (Hd.call 31 [.int .i64 1, .ptr 0 0, .ptr 2 0, .ptr 3 0]) [0, 2, 3] ([bk 0 [.data 1 n (by8 y)], bk 2 [.sint .i64 (0 : Int)], bk 3 [.bool true]])) (by kernel_rfl) ?_
             refine hold_stop (fun hd hb => ?_)
             refine tk_call hd (tb1 n y _ hn ?_) hb (by decide) (by decide) (by kernel_rfl) fit1_n ?_
             focus omega
             rintro x G ⟨a, vh12, ha, ha1, hv, hv1, rfl, rfl⟩
             refine ok_sk (.stop [0, 1, 2, 3, 4, 8]) (S := .stop (Hd.loop 43 [.data 1 n (by8 y), .ptr 0 0, .ptr 1 0, .int .i64 0, .ptr 2 0, .ptr 3 0, fT, .ptr 4 0, .tuple [], .ptr 4 8, fT, fT, .sint .u64 (n1 (sh y 0)), .sint .u8 (n1 (sh y 0) % 256), .ptr 4 0, .ptr 4 1, .ptr 4 9, .ptr 4 8, .slice 8 0 3 3 true, .int .i64 3, .int .i64 3, .bool false, .ptr 8 2, .ptr 4 8, .ptr 4 8, fT, .sint .u64 (n2 (sh y 5)), .sint .i64 (n2 (sh y 5)), m2 y 5, .ptr 4 8, .int .i64 3, fT, .sint .u64 (n4 (sh y 7)), .sint .i64 (n4 (sh y 7)), m4 y 7, .ptr 4 10, fT, .sint .u64 (n1 (sh y 11)), .sint .u8 (n1 (sh y 11) % 256), .ptr 4 2, .ptr 4 2, fT, q8 y 12, .ptr 4 2, .ptr 4 3, fT, .sint .u64 (n2 (sh y 20)), .sint .i64 (n2 (sh y 20)), m2 y 20, .ptr 4 2, .ptr 4 4, fT, q8 y 22, .sint .i64 (n8 (sh y 22)), .sint .i64 (n8 (sh y 22) - 1), .ptr 4 2, .ptr 4 5, fT, q8 y 30, .ptr 4 2, .ptr 4 6, fT, .int .u64 0, .ptr 4 2, .ptr 4 7, fT, .sint .u64 vh12, .int .u64 0, .tuple [], .tuple [], .tuple [], .tuple [], .tuple [], .tuple [], .tuple [], .tuple [], .tuple [], .tuple [], .tuple [], .tuple [], .tuple [], .tuple [], .tuple [], .tuple [], .tuple [], .tuple [], .tuple [], .tuple [], .tuple [], .tuple [], .tuple [], .tuple [], .tuple []]) [0, 1, 2, 3, 4, 8] ([bk 0 [.data 1 n (by8 y)], bk 1 lpZ, bk 2 [.sint .i64 a], bk 3 [.bool true], bk 4 [.sint .u8 (n1 (sh y 0) % 256), m2 y 1, .sint .u8 (n1 (sh y 11) % 256), q8 y 12, m2 y 20, .sint .i64 (n8 (sh y 22) - 1), q8 y 30, .int .u64 0, m2 y 5, m2 y 3, m4 y 7, .nilSlice], bk 8 [.ptr 4 1, .ptr 4 9, .ptr 4 8]])) (by kernel_rfl) ?_
             refine hold_stop (fun hd hb => ?_)
             refine ok_loop hd (X := BS n y) bT bG bM [some 0, some 1, some 2, some 3, some 4, none] ⟨0, _, _, fun _ => [], ?_, fun j hj => absurd hj (Nat.not_lt_zero j)⟩ (fits6n (look_get hb 0 rfl rfl).1 (look_get hb 1 rfl rfl).1 (look_get hb 2 rfl rfl).1 (look_get hb 3 rfl rfl).1 (look_get hb 4 rfl rfl).1 (by decide) (lpT_fit fit_n fit_i) fit_n (br_fit fit_nil rfl)) ?_
             focus omega
             rintro ⟨i, a0, c, R, k, hr⟩
             refine ok_sk (.both (.stop [0, 2, 3]) (.stop [])) (S := .fork (decide ((↑i : Int) < c)) (.stop (Hd.call 31 [.int .i64 1, .ptr 0 0, .ptr 2 0, .ptr 3 0]) [0, 2, 3] ([bk 0 [.data 1 n (by8 y)], bk 2 [.sint .i64 a0], bk 3 [.bool true]])) (.stop (Hd.leaf (.tuple [.agg lpZ, .int .i64 5])) [] ([]))) (by kernel_rfl) ?_
             refine hold_forkD (fun h14 => ?_) (fun h14 => ?_)
             ·
              refine hold_stop (fun hd hb => ?_)
              have hz := hr
              refine tk_call hd (tb1 n y _ hn ?_) hb (by decide) (by decide) (by kernel_rfl) fit1_n ?_
              focus omega
              rintro x G ⟨a, v, ha, ha1, hv, hv1, rfl, rfl⟩
              clear hz
              refine ok_sk (.l (.l (.l (.l (.l (.l (.l (.l (.l (.l (.l (.l (.stop [0, 1, 2, 3, 4, 5, 9, 10]))))))))))))) (S := .left (decide (i = i)) (.left (decide ((-9223372036854775808 : Int) ≤ v ∧ v ≤ 9223372036854775807)) (.left (decide ((-9223372036854775808 : Int) ≤ v - 1 ∧ v - 1 ≤ 9223372036854775807)) (.left (decide (v - 1 = v - 1)) (.left (decide ((-9223372036854775808 : Int) ≤ v - 1 ∧ v - 1 ≤ 9223372036854775807)) (.left (decide (v - 1 = v - 1)) (.left (decide ((-9223372036854775808 : Int) ≤ v ∧ v ≤ 9223372036854775807)) (.left (decide (v = v)) (.left (decide (i = i)) (.left (@decide (1 < 65536 ∧ RowsOK 1 1 fun (i : Nat) => List.take 1 (List.drop (i * 1) [.sint .i64 (v - 1)])) pd) (.left (decide (i ≤ i ∧ i < 65536)) (.left (decide (0 ≤ (↑i : Int) + 1 ∧ (↑i : Int) + 1 ≤ 18446744073709551615)) (.stop (Hd.again (again' bT bG bM { i := i, a := a0, c := c, R := R, k := k, hr := hr }) [.top, .ptr 0 0, .ptr 1 0, .top, .ptr 2 0, .ptr 3 0, fT, .ptr 4 0, .top, .top, .top, .top, .top, .top, .top, .top, .top, .top, .top, .top, .top, .top, .top, .top, .top, .top, .top, .top, .top, .top, .top, .top, .top, .top, .top, .top, .top, .top, .top, .top, .top, .top, .top, .top, .top, .top, .top, .top, .top, .top, .top, .top, .top, .top, .top, .top, .top, .top, .top, .top, .top, .top, .top, .top, .top, .top, .sint .u64 c, .sint .u64 ((↑i : Int) + 1), .bool true, .ptr 4 11, .gsl 5 i, fT, .sint .u64 v, .sint .i64 v, .sint .i64 (v - 1), .slice 9 0 1 1 true, .gsl 10 (i + 1), .ptr 4 11, .sint .u64 ((↑i : Int) + 1), .top, .top, .top, .top, .top, .top, .top, .top, .top, .top, .top, .top, .top, .top]) [0, 1, 2, 3, 4, 5, 9, 10] ([bk 0 [.data 1 n (by8 y)], bk 1 lpZ, bk 2 [.sint .i64 a], bk 3 [.bool true], bk 4 [.top, .top, .top, .top, .top, .top, .top, .top, .top, .top, .top, .gsl 10 (i + 1)], (some Blk.dead, none), bk 9 [.sint .i64 (v - 1)], (some (Blk.seq 10 1 (i + 1) (glue i R fun (i : Nat) => List.take 1 (List.drop (i * 1) [.sint .i64 (v - 1)]))), some (1, i + 1, glue i R fun (i : Nat) => List.take 1 (List.drop (i * 1) [.sint .i64 (v - 1)])))])))))))))))))) (by kernel_rfl) ?_
              refine hl (bc fun h16 => by omega) ?_
              refine hl (bc fun h16 => by omega) ?_
              refine hl (bc fun h16 => by omega) ?_
              refine hl (bc fun h16 => by omega) ?_
              refine hl (bc fun h16 => by omega) ?_
              refine hl (bc fun h16 => by omega) ?_
              refine hl (bc fun h16 => by omega) ?_
              refine hl (bc fun h16 => by omega) ?_
              refine hl (bc fun h16 => by omega) ?_
              refine hl (bc fun h16 => by exact h16 ⟨by omega, fun j hj => by obtain rfl : j = 0 := (by omega); exact ⟨rfl, rfl⟩⟩) ?_
              refine hl (bc fun h16 => by omega) ?_
              refine hl (bc fun h16 => by omega) ?_
              refine hold_stop (fun hd hb => ?_)
              have hn := fun j hj => (nfs_glue (i := i) (R := R) (g := fun q => List.take 1 (List.drop (q * 1) [AV.sint .i64 (v - 1)])) hr rfl j hj).2
              refine ok_again hd [some 0, some 1, some 2, some 3, some 4, some 10] ⟨i + 1, _, c, _, ?_, hn⟩ ?_ (fits6b (look_get hb 0 rfl rfl).1 (look_get hb 1 rfl rfl).1 (look_get hb 2 rfl rfl).1 (look_get hb 3 rfl rfl).1 (look_get hb 4 rfl rfl).1 (look_get hb 7 rfl rfl).2 (by decide) (lpT_fit fit_n ⟨rfl, rfl⟩) fit_n (fit_g rfl) hn)
              · omega
              · show (c - ((i + 1 : Nat) : Int)).toNat < (c - (i : Int)).toNat
                omega
             refine hold_stop (fun hd hb => ?_)
             exact ok_leaf0 hd rfl (.inr ⟨fun h => by have := h.1; omega, rfl, rfl⟩)
            refine ok_sk (.stop [0, 2, 3]) (S := .stop (Hd.call 31 [.int .i64 8, .ptr 0 0, .ptr 2 0, .ptr 3 0]) [0, 2, 3] ([bk 0 [.data 1 n (by8 y)], bk 2 [.sint .i64 (0 : Int)], bk 3 [.bool true]])) (by kernel_rfl) ?_
            refine hold_stop (fun hd hb => ?_)
            refine tk_call hd (tb8 n y _ hn ?_) hb (by decide) (by decide) (by kernel_rfl) fit1_n ?_
            focus omega
            rintro x G ⟨a, ha, ha1, rfl, rfl⟩
            refine ok_sk (.stop [0, 2, 3]) (S := .stop (Hd.call 31 [.int .i64 1, .ptr 0 0, .ptr 2 0, .ptr 3 0]) [0, 2, 3] ([bk 0 [.data 1 n (by8 y)], bk 2 [.sint .i64 a], bk 3 [.bool true]])) (by kernel_rfl) ?_
            refine hold_stop (fun hd hb => ?_)
            refine tk_call hd (tb1 n y _ hn ?_) hb (by decide) (by decide) (by kernel_rfl) fit1_n ?_
            focus omega
            rintro x G ⟨a, vh12, ha, ha1, hv, hv1, rfl, rfl⟩
            refine ok_sk (.stop [0, 1, 2, 3, 4, 8]) (S := .stop (Hd.loop 43 [.data 1 n (by8 y), .ptr 0 0, .ptr 1 0, .int .i64 0, .ptr 2 0, .ptr 3 0, fT, .ptr 4 0, .tuple [], .ptr 4 8, fT, fT, .sint .u64 (n1 (sh y 0)), .sint .u8 (n1 (sh y 0) % 256), .ptr 4 0, .ptr 4 1, .ptr 4 9, .ptr 4 8, .slice 8 0 3 3 true, .int .i64 3, .int .i64 3, .bool false, .ptr 8 2, .ptr 4 8, .ptr 4 8, fT, .sint .u64 (n2 (sh y 5)), .sint .i64 (n2 (sh y 5)), m2 y 5, .ptr 4 8, .int .i64 3, fT, .sint .u64 (n4 (sh y 7)), .sint .i64 (n4 (sh y 7)), m4 y 7, .ptr 4 10, fT, .sint .u64 (n1 (sh y 11)), .sint .u8 (n1 (sh y 11) % 256), .ptr 4 2, .ptr 4 2, fT, q8 y 12, .ptr 4 2, .ptr 4 3, fT, .sint .u64 (n2 (sh y 20)), .sint .i64 (n2 (sh y 20)), m2 y 20, .ptr 4 2, .ptr 4 4, fT, q8 y 22, .sint .i64 (n8 (sh y 22)), .sint .i64 (n8 (sh y 22) - 1), .ptr 4 2, .ptr 4 5, fT, .int .u64 0, .ptr 4 2, .ptr 4 6, fT, AV.unkI IntKind.u64, .ptr 4 2, .ptr 4 7, fT, .sint .u64 vh12, .int .u64 0, .tuple [], .tuple [], .tuple [], .tuple [], .tuple [], .tuple [], .tuple [], .tuple [], .tuple [], .tuple [], .tuple [], .tuple [], .tuple [], .tuple [], .tuple [], .tuple [], .tuple [], .tuple [], .tuple [], .tuple [], .tuple [], .tuple [], .tuple [], .tuple [], .tuple []]) [0, 1, 2, 3, 4, 8] ([bk 0 [.data 1 n (by8 y)], bk 1 lpZ, bk 2 [.sint .i64 a], bk 3 [.bool true], bk 4 [.sint .u8 (n1 (sh y 0) % 256), m2 y 1, .sint .u8 (n1 (sh y 11) % 256), q8 y 12, m2 y 20, .sint .i64 (n8 (sh y 22) - 1), .int .u64 0, AV.unkI IntKind.u64, m2 y 5, m2 y 3, m4 y 7, .nilSlice], bk 8 [.ptr 4 1, .ptr 4 9, .ptr 4 8]])) (by kernel_rfl) ?_
            refine hold_stop (fun hd hb => ?_)
            refine ok_loop hd (X := BS n y) bT bG bM [some 0, some 1, some 2, some 3, some 4, none] ⟨0, _, _, fun _ => [], ?_, fun j hj => absurd hj (Nat.not_lt_zero j)⟩ (fits6n (look_get hb 0 rfl rfl).1 (look_get hb 1 rfl rfl).1 (look_get hb 2 rfl rfl).1 (look_get hb 3 rfl rfl).1 (look_get hb 4 rfl rfl).1 (by decide) (lpT_fit fit_n fit_i) fit_n (br_fit fit_nil rfl)) ?_
            focus omega
            rintro ⟨i, a0, c, R, k, hr⟩
            refine ok_sk (.both (.stop [0, 2, 3]) (.stop [])) (S := .fork (decide ((↑i : Int) < c)) (.stop (Hd.call 31 [.int .i64 1, .ptr 0 0, .ptr 2 0, .ptr 3 0]) [0, 2, 3] ([bk 0 [.data 1 n (by8 y)], bk 2 [.sint .i64 a0], bk 3 [.bool true]])) (.stop (Hd.leaf (.tuple [.agg lpZ, .int .i64 5])) [] ([]))) (by kernel_rfl) ?_
            refine hold_forkD (fun h14 => ?_) (fun h14 => ?_)
            ·
             refine hold_stop (fun hd hb => ?_)
             have hz := hr
             refine tk_call hd (tb1 n y _ hn ?_) hb (by decide) (by decide) (by kernel_rfl) fit1_n ?_
             focus omega
             rintro x G ⟨a, v, ha, ha1, hv, hv1, rfl, rfl⟩
             clear hz
             refine ok_sk (.l (.l (.l (.l (.l (.l (.l (.l (.l (.l (.l (.l (.stop [0, 1, 2, 3, 4, 5, 9, 10]))))))))))))) (S := .left (decide (i = i)) (.left (decide ((-9223372036854775808 : Int) ≤ v ∧ v ≤ 9223372036854775807)) (.left (decide ((-9223372036854775808 : Int) ≤ v - 1 ∧ v - 1 ≤ 9223372036854775807)) (.left (decide (v - 1 = v - 1)) (.left (decide ((-9223372036854775808 : Int) ≤ v - 1 ∧ v - 1 ≤ 9223372036854775807)) (.left (decide (v - 1 = v - 1)) (.left (decide ((-9223372036854775808 : Int) ≤ v ∧ v ≤ 9223372036854775807)) (.left (decide (v = v)) (.left (decide (i = i)) (.left (@decide (1 < 65536 ∧ RowsOK 1 1 fun (i : Nat) => List.take 1 (List.drop (i * 1) [.sint .i64 (v - 1)])) pd) (.left (decide (i ≤ i ∧ i < 65536)) (.left (decide (0 ≤ (↑i : Int) + 1 ∧ (↑i : Int) + 1 ≤ 18446744073709551615)) (.stop (Hd.again (again' bT bG bM { i := i, a := a0, c := c, R := R, k := k, hr := hr }) [.top, .ptr 0 0, .ptr 1 0, .top, .ptr 2 0, .ptr 3 0, fT, .ptr 4 0, .top, .top, .top, .top, .top, .top, .top, .top, .top, .top, .top, .top, .top, .top, .top, .top, .top, .top, .top, .top, .top, .top, .top, .top, .top, .top, .top, .top, .top, .top, .top, .top, .top, .top, .top, .top, .top, .top, .top, .top, .top, .top, .top, .top, .top, .top, .top, .top, .top, .top, .top, .top, .top, .top, .top, .top, .top, .top, .sint .u64 c, .sint .u64 ((↑i : Int) + 1), .bool true, .ptr 4 11, .gsl 5 i, fT, .sint .u64 v, .sint .i64 v, .sint .i64 (v - 1), .slice 9 0 1 1 true, .gsl 10 (i + 1), .ptr 4 11, .sint .u64 ((↑i : Int) + 1), .top, .top, .top, .top, .top, .top, .top, .top, .top, .top, .top, .top, .top, .top]) [0, 1, 2, 3, 4, 5, 9, 10] ([bk 0 [.data 1 n (by8 y)], bk 1 lpZ, bk 2 [.sint .i64 a], bk 3 [.bool true], bk 4 [.top, .top, .top, .top, .top, .top, .top, .top, .top, .top, .top, .gsl 10 (i + 1)], (some Blk.dead, none), bk 9 [.sint .i64 (v - 1)], (some (Blk.seq 10 1 (i + 1) (glue i R fun (i : Nat) => List.take 1 (List.drop (i * 1) [.sint .i64 (v - 1)]))), some (1, i + 1, glue i R fun (i : Nat) => List.take 1 (List.drop (i * 1) [.sint .i64 (v - 1)])))])))))))))))))) (by kernel_rfl) ?_
             refine hl (bc fun h16 => by omega) ?_
             refine hl (bc fun h16 => by omega) ?_
             refine hl (bc fun h16 => by omega) ?_
             refine hl (bc fun h16 => by omega) ?_
             refine hl (bc fun h16 => by omega) ?_
             refine hl (bc fun h16 => by omega) ?_
             refine hl (bc fun h16 => by omega) ?_
             refine hl (bc fun h16 => by omega) ?_
             refine hl (bc fun h16 => by omega) ?_
             refine hl (bc fun h16 => by exact h16 ⟨by omega, fun j hj => by obtain rfl : j = 0 := (by omega); exact ⟨rfl, rfl⟩⟩) ?_
             refine hl (bc fun h16 => by omega) ?_
             refine hl (bc fun h16 => by omega) ?_
             refine hold_stop (fun hd hb => ?_)
             have hn := fun j hj => (nfs_glue (i := i) (R := R) (g := fun q => List.take 1 (List.drop (q * 1) [AV.sint .i64 (v - 1)])) hr rfl j hj).2
             refine ok_again hd [some 0, some 1, some 2, some 3, some 4, some 10] ⟨i + 1, _, c, _, ?_, hn⟩ ?_ (fits6b (look_get hb 0 rfl rfl).1 (look_get hb 1 rfl rfl).1 (look_get hb 2 rfl rfl).1 (look_get hb 3 rfl rfl).1 (look_get hb 4 rfl rfl).1 (look_get hb 7 rfl rfl).2 (by decide) (lpT_fit fit_n ⟨rfl, rfl⟩) fit_n (fit_g rfl) hn)
             · omega
             · show (c - ((i + 1 : Nat) : Int)).toNat < (c - (i : Int)).toNat
               omega
            refine hold_stop (fun hd hb => ?_)
            exact ok_leaf0 hd rfl (.inr ⟨fun h => by have := h.1; omega, rfl, rfl⟩)
           refine hold_forkD (fun h10 => ?_) (fun h10 => ?_)
           ·
            refine hold_stop (fun hd hb => ?_)
            refine tk_call hd (tk8 n y _ hn ?_) hb (by decide) (by decide) (by kernel_rfl) fit1_n ?_
            focus omega
            rintro x G (⟨h, rfl, rfl⟩ | ⟨h, rfl, rfl⟩)
            ·
             refine ok_sk (.stop [0, 2, 3]) (S := .stop (Hd.call 31 [.int .i64 8, .ptr 0 0, .ptr 2 0, .ptr 3 0]) [0, 2, 3] ([bk 0 [.data 1 n (by8 y)], bk 2 [.sint .i64 (38 : Int)], bk 3 [.bool false]])) (by kernel_rfl) ?_
             refine hold_stop (fun hd hb => ?_)
             refine tk_call hd (tk8 n y _ hn ?_) hb (by decide) (by decide) (by kernel_rfl) fit1_n ?_
             focus omega
             rintro x G (⟨h, rfl, rfl⟩ | ⟨h, rfl, rfl⟩)
             ·
              refine ok_sk (.stop [0, 2, 3]) (S := .stop (Hd.call 31 [.int .i64 1, .ptr 0 0, .ptr 2 0, .ptr 3 0]) [0, 2, 3] ([bk 0 [.data 1 n (by8 y)], bk 2 [.sint .i64 (46 : Int)], bk 3 [.bool false]])) (by kernel_rfl) ?_
              refine hold_stop (fun hd hb => ?_)
              refine tk_call hd (tk1 n y _ hn ?_) hb (by decide) (by decide) (by kernel_rfl) fit1_n ?_
              focus omega
              rintro x G (⟨h, rfl, rfl⟩ | ⟨h, rfl, rfl⟩)
              ·
               refine ok_sk (.stop [0, 1, 2, 3, 4, 8]) (S := .stop (Hd.loop 43 [.data 1 n (by8 y), .ptr 0 0, .ptr 1 0, .int .i64 0, .ptr 2 0, .ptr 3 0, fT, .ptr 4 0, .tuple [], .ptr 4 8, fT, fT, .sint .u64 (n1 (sh y 0)), .sint .u8 (n1 (sh y 0) % 256), .ptr 4 0, .ptr 4 1, .ptr 4 9, .ptr 4 8, .slice 8 0 3 3 true, .int .i64 3, .int .i64 3, .bool false, .ptr 8 2, .ptr 4 8, .ptr 4 8, fT, .sint .u64 (n2 (sh y 5)), .sint .i64 (n2 (sh y 5)), m2 y 5, .ptr 4 8, .int .i64 3, fT, .sint .u64 (n4 (sh y 7)), .sint .i64 (n4 (sh y 7)), m4 y 7, .ptr 4 10, fT, .sint .u64 (n1 (sh y 11)), .sint .u8 (n1 (sh y 11) % 256), .ptr 4 2, .ptr 4 2, fT, q8 y 12, .ptr 4 2, .ptr 4 3, fT, .sint .u64 (n2 (sh y 20)), .sint .i64 (n2 (sh y 20)), m2 y 20, .ptr 4 2, .ptr 4 4, fT, q8 y 22, .sint .i64 (IntKind.i64.wrap (n8 (sh y 22))), .sint .i64 (IntKind.i64.wrap (n8 (sh y 22)) - 1), .ptr 4 2, .ptr 4 5, fT, q8 y 30, .ptr 4 2, .ptr 4 6, fT, q8 y 38, .ptr 4 2, .ptr 4 7, fT, .sint .u64 (n1 (sh y 46)), .int .u64 0, .tuple [], .tuple [], .tuple [], .tuple [], .tuple [], .tuple [], .tuple [], .tuple [], .tuple [], .tuple [], .tuple [], .tuple [], .tuple [], .tuple [], .tuple [], .tuple [], .tuple [], .tuple [], .tuple [], .tuple [], .tuple [], .tuple [], .tuple [], .tuple [], .tuple []]) [0, 1, 2, 3, 4, 8] ([bk 0 [.data 1 n (by8 y)], bk 1 lpZ, bk 2 [.sint .i64 (47 : Int)], bk 3 [.bool false], bk 4 [.sint .u8 (n1 (sh y 0) % 256), m2 y 1, .sint .u8 (n1 (sh y 11) % 256), q8 y 12, m2 y 20, .sint .i64 (IntKind.i64.wrap (n8 (sh y 22)) - 1), q8 y 30, q8 y 38, m2 y 5, m2 y 3, m4 y 7, .nilSlice], bk 8 [.ptr 4 1, .ptr 4 9, .ptr 4 8]])) (by kernel_rfl) ?_
               refine hold_stop (fun hd hb => ?_)
               refine ok_loop hd (X := GS n y ⊕ BS n y) gT gG gM [some 0, some 1, some 2, some 3, some 4, none] (.inl ⟨0, IntKind.i64.wrap (n8 (sh y 22)) - 1, ?_, ?_⟩) (fits6n (look_get hb 0 rfl rfl).1 (look_get hb 1 rfl rfl).1 (look_get hb 2 rfl rfl).1 (look_get hb 3 rfl rfl).1 (look_get hb 4 rfl rfl).1 (by decide) (lpT_fit fit_n fit_i) ⟨rfl, rfl⟩ (gr_fit fit_nil rfl)) ?_
               focus omega
               focus exact ⟨fun h => by omega, fun h => by omega⟩
               rintro (⟨i, am, k, hA⟩ | ⟨i, a0, c, R, k, hr⟩)
               all_goals (have bi := n1_bd (sh y (47 + (i : Int)).toNat))
               ·
                refine ok_sk (.both (.stop [0, 2, 3]) (.both (.stop [5]) (.stop []))) (S := .fork (decide ((↑i : Int) < n1 (sh y 46))) (.stop (Hd.call 31 [.int .i64 1, .ptr 0 0, .ptr 2 0, .ptr 3 0]) [0, 2, 3] ([bk 0 [.data 1 n (by8 y)], bk 2 [.sint .i64 ((47 : Int) + (↑i : Int))], bk 3 [.bool false]])) (.fork (decide ((47 : Int) + (↑i : Int) = (↑n : Int))) (.stop (Hd.call 7 [.agg [.sint .u8 (n1 (sh y 0) % 256), .sint .i64 (n2 (sh y 1) - 1), .sint .u8 (n1 (sh y 11) % 256), .sint .u64 (n8 (sh y 12)), .sint .i64 (n2 (sh y 20) - 1), .sint .i64 am, .sint .u64 (n8 (sh y 30)), .sint .u64 (n8 (sh y 38)), .sint .i64 (n2 (sh y 5) - 1), .sint .i64 (n2 (sh y 3) - 1), .sint .i64 (n4 (sh y 7) - 1), .gsl 5 i]]) [5] ([(some (Blk.seq 5 1 i (pk y)), some (1, i, pk y))])) (.stop (Hd.leaf (.tuple [.agg lpZ, .int .i64 5])) [] ([])))) (by kernel_rfl) ?_
                refine hold_forkD (fun h15 => ?_) (fun h15 => ?_)
                ·
                 refine hold_stop (fun hd hb => ?_)
                 refine tk_call hd (tk1 n y _ hn ?_) hb (by decide) (by decide) (by kernel_rfl) fit1_n ?_
                 focus omega
                 rintro x G (⟨h, rfl, rfl⟩ | ⟨h, rfl, rfl⟩)
                 ·
                  refine ok_sk (.l (.l (.l (.l (.l (.l (.l (.l (.l (.l (.l (.l (.stop [0, 1, 2, 3, 4, 5, 9, 10]))))))))))))) (S := .left (decide (i = i)) (.left (decide ((-9223372036854775808 : Int) ≤ n1 (sh y ((47 : Int) + (↑i : Int)).toNat) ∧ n1 (sh y ((47 : Int) + (↑i : Int)).toNat) ≤ 9223372036854775807)) (.left (decide ((-9223372036854775808 : Int) ≤ n1 (sh y ((47 : Int) + (↑i : Int)).toNat) - 1 ∧ n1 (sh y ((47 : Int) + (↑i : Int)).toNat) - 1 ≤ 9223372036854775807)) (.left (decide (n1 (sh y ((47 : Int) + (↑i : Int)).toNat) - 1 = n1 (sh y ((47 : Int) + (↑i : Int)).toNat) - 1)) (.left (decide ((-9223372036854775808 : Int) ≤ n1 (sh y ((47 : Int) + (↑i : Int)).toNat) - 1 ∧ n1 (sh y ((47 : Int) + (↑i : Int)).toNat) - 1 ≤ 9223372036854775807)) (.left (decide (n1 (sh y ((47 : Int) + (↑i : Int)).toNat) - 1 = n1 (sh y ((47 : Int) + (↑i : Int)).toNat) - 1)) (.left (decide ((-9223372036854775808 : Int) ≤ n1 (sh y ((47 : Int) + (↑i : Int)).toNat) ∧ n1 (sh y ((47 : Int) + (↑i : Int)).toNat) ≤ 9223372036854775807)) (.left (decide (n1 (sh y ((47 : Int) + (↑i : Int)).toNat) = n1 (sh y ((47 : Int) + (↑i : Int)).toNat))) (.left (decide (i = i)) (.left (@decide (1 < 65536 ∧ RowsOK 1 1 fun (i_1 : Nat) => List.take 1 (List.drop (i_1 * 1) [.sint .i64 (n1 (sh y ((47 : Int) + (↑i : Int)).toNat) - 1)])) pd) (.left (decide (i ≤ i ∧ i < 65536)) (.left (decide (0 ≤ (↑i : Int) + 1 ∧ (↑i : Int) + 1 ≤ 18446744073709551615)) (.stop (Hd.again (again' gT gG gM (Sum.inl { i := i, am := am, k := k, ha := hA })) [.top, .ptr 0 0, .ptr 1 0, .top, .ptr 2 0, .ptr 3 0, fT, .ptr 4 0, .top, .top, .top, .top, .top, .top, .top, .top, .top, .top, .top, .top, .top, .top, .top, .top, .top, .top, .top, .top, .top, .top, .top, .top, .top, .top, .top, .top, .top, .top, .top, .top, .top, .top, .top, .top, .top, .top, .top, .top, .top, .top, .top, .top, .top, .top, .top, .top, .top, .top, .top, .top, .top, .top, .top, .top, .top, .top, .sint .u64 (n1 (sh y 46)), .sint .u64 ((↑i : Int) + 1), .bool true, .ptr 4 11, .gsl 5 i, fT, .sint .u64 (n1 (sh y ((47 : Int) + (↑i : Int)).toNat)), .sint .i64 (n1 (sh y ((47 : Int) + (↑i : Int)).toNat)), .sint .i64 (n1 (sh y ((47 : Int) + (↑i : Int)).toNat) - 1), .slice 9 0 1 1 true, .gsl 10 (i + 1), .ptr 4 11, .sint .u64 ((↑i : Int) + 1), .top, .top, .top, .top, .top, .top, .top, .top, .top, .top, .top, .top, .top, .top]) [0, 1, 2, 3, 4, 5, 9, 10] ([bk 0 [.data 1 n (by8 y)], bk 1 lpZ, bk 2 [.sint .i64 ((47 : Int) + (↑i : Int) + 1)], bk 3 [.bool false], bk 4 [.sint .u8 (n1 (sh y 0) % 256), m2 y 1, .sint .u8 (n1 (sh y 11) % 256), q8 y 12, m2 y 20, .sint .i64 am, q8 y 30, q8 y 38, m2 y 5, m2 y 3, m4 y 7, .gsl 10 (i + 1)], (some Blk.dead, none), bk 9 [.sint .i64 (n1 (sh y ((47 : Int) + (↑i : Int)).toNat) - 1)], (some (Blk.seq 10 1 (i + 1) (glue i (pk y) fun (i_1 : Nat) => List.take 1 (List.drop (i_1 * 1) [.sint .i64 (n1 (sh y ((47 : Int) + (↑i : Int)).toNat) - 1)]))), some (1, i + 1, glue i (pk y) fun (i_1 : Nat) => List.take 1 (List.drop (i_1 * 1) [.sint .i64 (n1 (sh y ((47 : Int) + (↑i : Int)).toNat) - 1)])))])))))))))))))) (by kernel_rfl) ?_
                  refine hl (bc fun h17 => by omega) ?_
                  refine hl (bc fun h17 => by omega) ?_
                  refine hl (bc fun h17 => by omega) ?_
                  refine hl (bc fun h17 => by omega) ?_
                  refine hl (bc fun h17 => by omega) ?_
                  refine hl (bc fun h17 => by omega) ?_
                  refine hl (bc fun h17 => by omega) ?_
                  refine hl (bc fun h17 => by omega) ?_
                  refine hl (bc fun h17 => by omega) ?_
                  refine hl (bc fun h17 => by exact h17 ⟨by omega, fun j hj => by obtain rfl : j = 0 := (by omega); exact ⟨rfl, rfl⟩⟩) ?_
                  refine hl (bc fun h17 => by omega) ?_
                  refine hl (bc fun h17 => by omega) ?_
                  refine hold_stop (fun hd hb => ?_)
                  refine ok_again hd [some 0, some 1, some 2, some 3, some 4, some 10] (.inl ⟨i + 1, am, ?_, hA⟩) ?_ (fits6s (look_get hb 0 rfl rfl).1 (look_get hb 1 rfl rfl).1 (look_get hb 2 rfl rfl).1 (look_get hb 3 rfl rfl).1 (look_get hb 4 rfl rfl).1 (look_get hb 7 rfl rfl).2 (by decide) (lpT_fit fit_n ⟨rfl, rfl⟩) ⟨rfl, ?_⟩ (gr_fit (fit_g rfl) rfl) (Nat.le_refl _) (pk_glue ?_))
                  · omega
                  · show (n1 (sh y 46) - ((i + 1 : Nat) : Int)).toNat < (n1 (sh y 46) - (i : Int)).toNat
                    omega
                  · show 47 + ((i + 1 : Nat) : Int) = 47 + (i : Int) + 1
                    omega
                  · show [AV.sint .i64 (n1 (sh y (47 + (i : Int)).toNat) - 1)] = pk y i
                    rw [show (47 + (i : Int)).toNat = 47 + i by omega]
                    rfl
                 refine ok_sk (.l (.l (.l (.l (.l (.stop [0, 1, 2, 3, 4, 5, 9, 10])))))) (S := .left (decide (i = i)) (.left (decide (i = i)) (.left (@decide (1 < 65536 ∧ RowsOK 1 1 fun (i : Nat) => List.take 1 (List.drop (i * 1) [.int .i64 (Int.negSucc 0)])) pd) (.left (decide (i ≤ i ∧ i < 65536)) (.left (decide (0 ≤ (↑i : Int) + 1 ∧ (↑i : Int) + 1 ≤ 18446744073709551615)) (.stop (Hd.again (again' gT gG gM (Sum.inl { i := i, am := am, k := k, ha := hA })) [.top, .ptr 0 0, .ptr 1 0, .top, .ptr 2 0, .ptr 3 0, fT, .ptr 4 0, .top, .top, .top, .top, .top, .top, .top, .top, .top, .top, .top, .top, .top, .top, .top, .top, .top, .top, .top, .top, .top, .top, .top, .top, .top, .top, .top, .top, .top, .top, .top, .top, .top, .top, .top, .top, .top, .top, .top, .top, .top, .top, .top, .top, .top, .top, .top, .top, .top, .top, .top, .top, .top, .top, .top, .top, .top, .top, .sint .u64 (n1 (sh y 46)), .sint .u64 ((↑i : Int) + 1), .bool true, .ptr 4 11, .gsl 5 i, fT, .int .u64 0, .int .i64 0, .int .i64 (Int.negSucc 0), .slice 9 0 1 1 true, .gsl 10 (i + 1), .ptr 4 11, .sint .u64 ((↑i : Int) + 1), .top, .top, .top, .top, .top, .top, .top, .top, .top, .top, .top, .top, .top, .top]) [0, 1, 2, 3, 4, 5, 9, 10] ([bk 0 [.data 1 n (by8 y)], bk 1 lpZ, bk 2 [.sint .i64 (0 : Int)], bk 3 [.bool true], bk 4 [.sint .u8 (n1 (sh y 0) % 256), m2 y 1, .sint .u8 (n1 (sh y 11) % 256), q8 y 12, m2 y 20, .sint .i64 am, q8 y 30, q8 y 38, m2 y 5, m2 y 3, m4 y 7, .gsl 10 (i + 1)], (some Blk.dead, none), bk 9 [.int .i64 (Int.negSucc 0)], (some (Blk.seq 10 1 (i + 1) (glue i (pk y) fun (i : Nat) => List.take 1 (List.drop (i * 1) [.int .i64 (Int.negSucc 0)]))), some (1, i + 1, glue i (pk y) fun (i : Nat) => List.take 1 (List.drop (i * 1) [.int .i64 (Int.negSucc 0)])))]))))))) (by kernel_rfl) ?_
                 refine hl (bc fun h17 => by omega) ?_
                 refine hl (bc fun h17 => by omega) ?_
                 refine hl (bc fun h17 => by exact h17 ⟨by omega, fun j hj => by obtain rfl : j = 0 := (by omega); exact ⟨rfl, rfl⟩⟩) ?_
                 refine hl (bc fun h17 => by omega) ?_
                 refine hl (bc fun h17 => by omega) ?_
                 refine hold_stop (fun hd hb => ?_)
                 have hn := fun j hj => (nfs_glue (i := i) (R := pk y) (g := fun q => List.take 1 (List.drop (q * 1) [AV.int .i64 (-1)])) (mem_pk rfl) rfl j hj).2
                 refine ok_again hd [some 0, some 1, some 2, some 3, some 4, some 10] (.inr ⟨i + 1, _, n1 (sh y 46), _, ?_, hn⟩) ?_ (fits6b (look_get hb 0 rfl rfl).1 (look_get hb 1 rfl rfl).1 (look_get hb 2 rfl rfl).1 (look_get hb 3 rfl rfl).1 (look_get hb 4 rfl rfl).1 (look_get hb 7 rfl rfl).2 (by decide) (lpT_fit fit_n ⟨rfl, rfl⟩) fit_n (fit_g rfl) hn)
                 · omega
                 · show (n1 (sh y 46) - ((i + 1 : Nat) : Int)).toNat < (n1 (sh y 46) - (i : Int)).toNat
                   omega
                refine hold_forkD (fun h16 => ?_) (fun h16 => ?_)
                ·
                 refine hold_stop (fun hd hb => ?_)
                 refine ok_call hd (tmay (stY y am) i (pkI y) (by omega) (by show 0 ≤ n1 (sh y 0) % 256; omega)) (st_view (s := stY y am) (look_get hb 0 rfl rfl).2 (Nat.le_refl _) (fun j hj => rfl)) ?_
                 rintro x G ⟨rfl, ⟨rfl, my⟩ | ⟨rfl, my⟩⟩ <;> refine ⟨rfl, fun g hg => (by cases hg), ?_⟩
                 ·
                  refine ok_sk (.stop [5]) (S := .stop (Hd.leaf (.tuple [.agg [.sint .u8 (n1 (sh y 0) % 256), .sint .i64 (n2 (sh y 1) - 1), .sint .u8 (n1 (sh y 11) % 256), .sint .u64 (n8 (sh y 12)), .sint .i64 (n2 (sh y 20) - 1), .sint .i64 am, .sint .u64 (n8 (sh y 30)), .sint .u64 (n8 (sh y 38)), .sint .i64 (n2 (sh y 5) - 1), .sint .i64 (n2 (sh y 3) - 1), .sint .i64 (n4 (sh y 7) - 1), .gsl 5 i], .int .i64 0])) [5] ([(some (Blk.seq 5 1 i (pk y)), some (1, i, pk y))])) (by kernel_rfl) ?_
                  refine hold_stop (fun hd hb => ?_)
                  obtain ⟨e1, e2, hs⟩ := is_st (n := n) hA my (by omega) (by omega)
                  subst e1
                  subst e2
                  exact ok_leafG hd hb (y := .tuple [.agg ((stY y (n8 (sh y 22) - 1)).row (.gsl 0 (n1 (sh y 46)).toNat)), .int .i64 0]) (by simp [StI.row, stY, fitA, fitsA, nf]) (Nat.le_refl _) (fun j hj => ⟨rfl, rfl⟩) (.inl ⟨hs, rfl, rfl⟩)
                 refine ok_sk (.stop []) (S := .stop (Hd.leaf (.tuple [.agg lpZ, .int .i64 5])) [] ([])) (by kernel_rfl) ?_
                 refine hold_stop (fun hd hb => ?_)
                 exact ok_leaf0 hd rfl (.inr ⟨no_st hA my (by omega), rfl, rfl⟩)
                refine hold_stop (fun hd hb => ?_)
                exact ok_leaf0 hd rfl (.inr ⟨fun h => by have := h.1; omega, rfl, rfl⟩)
               refine ok_sk (.both (.stop [0, 2, 3]) (.stop [])) (S := .fork (decide ((↑i : Int) < c)) (.stop (Hd.call 31 [.int .i64 1, .ptr 0 0, .ptr 2 0, .ptr 3 0]) [0, 2, 3] ([bk 0 [.data 1 n (by8 y)], bk 2 [.sint .i64 a0], bk 3 [.bool true]])) (.stop (Hd.leaf (.tuple [.agg lpZ, .int .i64 5])) [] ([]))) (by kernel_rfl) ?_
               refine hold_forkD (fun h15 => ?_) (fun h15 => ?_)
               ·
                refine hold_stop (fun hd hb => ?_)
                have hz := hr
                refine tk_call hd (tb1 n y _ hn ?_) hb (by decide) (by decide) (by kernel_rfl) fit1_n ?_
                focus omega
                rintro x G ⟨a, v, ha, ha1, hv, hv1, rfl, rfl⟩
                clear hz
                refine ok_sk (.l (.l (.l (.l (.l (.l (.l (.l (.l (.l (.l (.l (.stop [0, 1, 2, 3, 4, 5, 9, 10]))))))))))))) (S := .left (decide (i = i)) (.left (decide ((-9223372036854775808 : Int) ≤ v ∧ v ≤ 9223372036854775807)) (.left (decide ((-9223372036854775808 : Int) ≤ v - 1 ∧ v - 1 ≤ 9223372036854775807)) (.left (decide (v - 1 = v - 1)) (.left (decide ((-9223372036854775808 : Int) ≤ v - 1 ∧ v - 1 ≤ 9223372036854775807)) (.left (decide (v - 1 = v - 1)) (.left (decide ((-9223372036854775808 : Int) ≤ v ∧ v ≤ 9223372036854775807)) (.left (decide (v = v)) (.left (decide (i = i)) (.left (@decide (1 < 65536 ∧ RowsOK 1 1 fun (i : Nat) => List.take 1 (List.drop (i * 1) [.sint .i64 (v - 1)])) pd) (.left (decide (i ≤ i ∧ i < 65536)) (.left (decide (0 ≤ (↑i : Int) + 1 ∧ (↑i : Int) + 1 ≤ 18446744073709551615)) (.stop (Hd.again (again' gT gG gM (Sum.inr { i := i, a := a0, c := c, R := R, k := k, hr := hr })) [.top, .ptr 0 0, .ptr 1 0, .top, .ptr 2 0, .ptr 3 0, fT, .ptr 4 0, .top, .top, .top, .top, .top, .top, .top, .top, .top, .top, .top, .top, .top, .top, .top, .top, .top, .top, .top, .top, .top, .top, .top, .top, .top, .top, .top, .top, .top, .top, .top, .top, .top, .top, .top, .top, .top, .top, .top, .top, .top, .top, .top, .top, .top, .top, .top, .top, .top, .top, .top, .top, .top, .top, .top, .top, .top, .top, .sint .u64 c, .sint .u64 ((↑i : Int) + 1), .bool true, .ptr 4 11, .gsl 5 i, fT, .sint .u64 v, .sint .i64 v, .sint .i64 (v - 1), .slice 9 0 1 1 true, .gsl 10 (i + 1), .ptr 4 11, .sint .u64 ((↑i : Int) + 1), .top, .top, .top, .top, .top, .top, .top, .top, .top, .top, .top, .top, .top, .top]) [0, 1, 2, 3, 4, 5, 9, 10] ([bk 0 [.data 1 n (by8 y)], bk 1 lpZ, bk 2 [.sint .i64 a], bk 3 [.bool true], bk 4 [.top, .top, .top, .top, .top, .top, .top, .top, .top, .top, .top, .gsl 10 (i + 1)], (some Blk.dead, none), bk 9 [.sint .i64 (v - 1)], (some (Blk.seq 10 1 (i + 1) (glue i R fun (i : Nat) => List.take 1 (List.drop (i * 1) [.sint .i64 (v - 1)]))), some (1, i + 1, glue i R fun (i : Nat) => List.take 1 (List.drop (i * 1) [.sint .i64 (v - 1)])))])))))))))))))) (by kernel_rfl) ?_
                refine hl (bc fun h17 => by omega) ?_
                refine hl (bc fun h17 => by omega) ?_
                refine hl (bc fun h17 => by omega) ?_
                refine hl (bc fun h17 => by omega) ?_
                refine hl (bc fun h17 => by omega) ?_
                refine hl (bc fun h17 => by omega) ?_
                refine hl (bc fun h17 => by omega) ?_
                refine hl (bc fun h17 => by omega) ?_
                refine hl (bc fun h17 => by omega) ?_
                refine hl (bc fun h17 => by exact h17 ⟨by omega, fun j hj => by obtain rfl : j = 0 := (by omega); exact ⟨rfl, rfl⟩⟩) ?_
                refine hl (bc fun h17 => by omega) ?_
                refine hl (bc fun h17 => by omega) ?_
                refine hold_stop (fun hd hb => ?_)
                have hn := fun j hj => (nfs_glue (i := i) (R := R) (g := fun q => List.take 1 (List.drop (q * 1) [AV.sint .i64 (v - 1)])) hr rfl j hj).2
                refine ok_again hd [some 0, some 1, some 2, some 3, some 4, some 10] (.inr ⟨i + 1, _, c, _, ?_, hn⟩) ?_ (fits6b (look_get hb 0 rfl rfl).1 (look_get hb 1 rfl rfl).1 (look_get hb 2 rfl rfl).1 (look_get hb 3 rfl rfl).1 (look_get hb 4 rfl rfl).1 (look_get hb 7 rfl rfl).2 (by decide) (lpT_fit fit_n ⟨rfl, rfl⟩) fit_n (fit_g rfl) hn)
                · omega
                · show (c - ((i + 1 : Nat) : Int)).toNat < (c - (i : Int)).toNat
                  omega
               refine hold_stop (fun hd hb => ?_)
               exact ok_leaf0 hd rfl (.inr ⟨fun h => by have := h.1; omega, rfl, rfl⟩)
              refine ok_sk (.stop [0, 1, 2, 3, 4, 8]) (S := .stop (Hd.loop 43 [.data 1 n (by8 y), .ptr 0 0, .ptr 1 0, .int .i64 0, .ptr 2 0, .ptr 3 0, fT, .ptr 4 0, .tuple [], .ptr 4 8, fT, fT, .sint .u64 (n1 (sh y 0)), .sint .u8 (n1 (sh y 0) % 256), .ptr 4 0, .ptr 4 1, .ptr 4 9, .ptr 4 8, .slice 8 0 3 3 true, .int .i64 3, .int .i64 3, .bool false, .ptr 8 2, .ptr 4 8, .ptr 4 8, fT, .sint .u64 (n2 (sh y 5)), .sint .i64 (n2 (sh y 5)), m2 y 5, .ptr 4 8, .int .i64 3, fT, .sint .u64 (n4 (sh y 7)), .sint .i64 (n4 (sh y 7)), m4 y 7, .ptr 4 10, fT, .sint .u64 (n1 (sh y 11)), .sint .u8 (n1 (sh y 11) % 256), .ptr 4 2, .ptr 4 2, fT, q8 y 12, .ptr 4 2, .ptr 4 3, fT, .sint .u64 (n2 (sh y 20)), .sint .i64 (n2 (sh y 20)), m2 y 20, .ptr 4 2, .ptr 4 4, fT, q8 y 22, .sint .i64 (IntKind.i64.wrap (n8 (sh y 22))), .sint .i64 (IntKind.i64.wrap (n8 (sh y 22)) - 1), .ptr 4 2, .ptr 4 5, fT, q8 y 30, .ptr 4 2, .ptr 4 6, fT, q8 y 38, .ptr 4 2, .ptr 4 7, fT, .int .u64 0, .int .u64 0, .tuple [], .tuple [], .tuple [], .tuple [], .tuple [], .tuple [], .tuple [], .tuple [], .tuple [], .tuple [], .tuple [], .tuple [], .tuple [], .tuple [], .tuple [], .tuple [], .tuple [], .tuple [], .tuple [], .tuple [], .tuple [], .tuple [], .tuple [], .tuple [], .tuple []]) [0, 1, 2, 3, 4, 8] ([bk 0 [.data 1 n (by8 y)], bk 1 lpZ, bk 2 [.sint .i64 (0 : Int)], bk 3 [.bool true], bk 4 [.sint .u8 (n1 (sh y 0) % 256), m2 y 1, .sint .u8 (n1 (sh y 11) % 256), q8 y 12, m2 y 20, .sint .i64 (IntKind.i64.wrap (n8 (sh y 22)) - 1), q8 y 30, q8 y 38, m2 y 5, m2 y 3, m4 y 7, .nilSlice], bk 8 [.ptr 4 1, .ptr 4 9, .ptr 4 8]])) (by kernel_rfl) ?_
              refine hold_stop (fun hd hb => ?_)
              refine ok_loop hd (X := BS n y) bT bG bM [some 0, some 1, some 2, some 3, some 4, none] ⟨0, _, _, fun _ => [], ?_, fun j hj => absurd hj (Nat.not_lt_zero j)⟩ (fits6n (look_get hb 0 rfl rfl).1 (look_get hb 1 rfl rfl).1 (look_get hb 2 rfl rfl).1 (look_get hb 3 rfl rfl).1 (look_get hb 4 rfl rfl).1 (by decide) (lpT_fit fit_i fit_i) fit_n (br_fit fit_nil rfl)) ?_
              focus omega
              rintro ⟨i, a0, c, R, k, hr⟩
              refine ok_sk (.both (.stop [0, 2, 3]) (.stop [])) (S := .fork (decide ((↑i : Int) < c)) (.stop (Hd.call 31 [.int .i64 1, .ptr 0 0, .ptr 2 0, .ptr 3 0]) [0, 2, 3] ([bk 0 [.data 1 n (by8 y)], bk 2 [.sint .i64 a0], bk 3 [.bool true]])) (.stop (Hd.leaf (.tuple [.agg lpZ, .int .i64 5])) [] ([]))) (by kernel_rfl) ?_
              refine hold_forkD (fun h15 => ?_) (fun h15 => ?_)
              ·
               refine hold_stop (fun hd hb => ?_)
               have hz := hr
               refine tk_call hd (tb1 n y _ hn ?_) hb (by decide) (by decide) (by kernel_rfl) fit1_n ?_
               focus omega
               rintro x G ⟨a, v, ha, ha1, hv, hv1, rfl, rfl⟩
               clear hz
               refine ok_sk (.l (.l (.l (.l (.l (.l (.l (.l (.l (.l (.l (.l (.stop [0, 1, 2, 3, 4, 5, 9, 10]))))))))))))) (S := .left (decide (i = i)) (.left (decide ((-9223372036854775808 : Int) ≤ v ∧ v ≤ 9223372036854775807)) (.left (decide ((-9223372036854775808 : Int) ≤ v - 1 ∧ v - 1 ≤ 9223372036854775807)) (.left (decide (v - 1 = v - 1)) (.left (decide ((-9223372036854775808 : Int) ≤ v - 1 ∧ v - 1 ≤ 9223372036854775807)) (.left (decide (v - 1 = v - 1)) (.left (decide ((-9223372036854775808 : Int) ≤ v ∧ v ≤ 9223372036854775807)) (.left (decide (v = v)) (.left (decide (i = i)) (.left (@decide (1 < 65536 ∧ RowsOK 1 1 fun (i : Nat) => List.take 1 (List.drop (i * 1) [.sint .i64 (v - 1)])) pd) (.left (decide (i ≤ i ∧ i < 65536)) (.left (decide (0 ≤ (↑i : Int) + 1 ∧ (↑i : Int) + 1 ≤ 18446744073709551615)) (.stop (Hd.again (again' bT bG bM { i := i, a := a0, c := c, R := R, k := k, hr := hr }) [.top, .ptr 0 0, .ptr 1 0, .top, .ptr 2 0, .ptr 3 0, fT, .ptr 4 0, .top, .top, .top, .top, .top, .top, .top, .top, .top, .top, .top, .top, .top, .top, .top, .top, .top, .top, .top, .top, .top, .top, .top, .top, .top, .top, .top, .top, .top, .top, .top, .top, .top, .top, .top, .top, .top, .top, .top, .top, .top, .top, .top, .top, .top, .top, .top, .top, .top, .top, .top, .top, .top, .top, .top, .top, .top, .top, .sint .u64 c, .sint .u64 ((↑i : Int) + 1), .bool true, .ptr 4 11, .gsl 5 i, fT, .sint .u64 v, .sint .i64 v, .sint .i64 (v - 1), .slice 9 0 1 1 true, .gsl 10 (i + 1), .ptr 4 11, .sint .u64 ((↑i : Int) + 1), .top, .top, .top, .top, .top, .top, .top, .top, .top, .top, .top, .top, .top, .top]) [0, 1, 2, 3, 4, 5, 9, 10] ([bk 0 [.data 1 n (by8 y)], bk 1 lpZ, bk 2 [.sint .i64 a], bk 3 [.bool true], bk 4 [.top, .top, .top, .top, .top, .top, .top, .top, .top, .top, .top, .gsl 10 (i + 1)], (some Blk.dead, none), bk 9 [.sint .i64 (v - 1)], (some (Blk.seq 10 1 (i + 1) (glue i R fun (i : Nat) => List.take 1 (List.drop (i * 1) [.sint .i64 (v - 1)]))), some (1, i + 1, glue i R fun (i : Nat) => List.take 1 (List.drop (i * 1) [.sint .i64 (v - 1)])))])))))))))))))) (by kernel_rfl) ?_
               refine hl (bc fun h17 => by omega) ?_
               refine hl (bc fun h17 => by omega) ?_
               refine hl (bc fun h17 => by omega) ?_
               refine hl (bc fun h17 => by omega) ?_
               refine hl (bc fun h17 => by omega) ?_
               refine hl (bc fun h17 => by omega) ?_
               refine hl (bc fun h17 => by omega) ?_
               refine hl (bc fun h17 => by omega) ?_
               refine hl (bc fun h17 => by omega) ?_
               refine hl (bc fun h17 => by exact h17 ⟨by omega, fun j hj => by obtain rfl : j = 0 := (by omega); exact ⟨rfl, rfl⟩⟩) ?_
               refine hl (bc fun h17 => by omega) ?_
               refine hl (bc fun h17 => by omega) ?_
               refine hold_stop (fun hd hb => ?_)
               have hn := fun j hj => (nfs_glue (i := i) (R := R) (g := fun q => List.take 1 (List.drop (q * 1) [AV.sint .i64 (v - 1)])) hr rfl j hj).2
               refine ok_again hd [some 0, some 1, some 2, some 3, some 4, some 10] ⟨i + 1, _, c, _, ?_, hn⟩ ?_ (fits6b (look_get hb 0 rfl rfl).1 (look_get hb 1 rfl rfl).1 (look_get hb 2 rfl rfl).1 (look_get hb 3 rfl rfl).1 (look_get hb 4 rfl rfl).1 (look_get hb 7 rfl rfl).2 (by decide) (lpT_fit fit_n ⟨rfl, rfl⟩) fit_n (fit_g rfl) hn)
               · omega
               · show (c - ((i + 1 : Nat) : Int)).toNat < (c - (i : Int)).toNat
                 omega
              refine hold_stop (fun hd hb => ?_)
              exact ok_leaf0 hd rfl (.inr ⟨fun h => by have := h.1; omega, rfl, rfl⟩)
             refine ok_sk (.stop [0, 2, 3]) (S := .stop (Hd.call 31 [.int .i64 1, .ptr 0 0, .ptr 2 0, .ptr 3 0]) [0, 2, 3] ([bk 0 [.data 1 n (by8 y)], bk 2 [.sint .i64 (0 : Int)], bk 3 [.bool true]])) (by kernel_rfl) ?_
             refine hold_stop (fun hd hb => ?_)
             refine tk_call hd (tb1 n y _ hn ?_) hb (by decide) (by decide) (by kernel_rfl) fit1_n ?_
             focus omega
             rintro x G ⟨a, vh13, ha, ha1, hv, hv1, rfl, rfl⟩
             refine ok_sk (.stop [0, 1, 2, 3, 4, 8]) (S := .stop (Hd.loop 43 [.data 1 n (by8 y), .ptr 0 0, .ptr 1 0, .int .i64 0, .ptr 2 0, .ptr 3 0, fT, .ptr 4 0, .tuple [], .ptr 4 8, fT, fT, .sint .u64 (n1 (sh y 0)), .sint .u8 (n1 (sh y 0) % 256), .ptr 4 0, .ptr 4 1, .ptr 4 9, .ptr 4 8, .slice 8 0 3 3 true, .int .i64 3, .int .i64 3, .bool false, .ptr 8 2, .ptr 4 8, .ptr 4 8, fT, .sint .u64 (n2 (sh y 5)), .sint .i64 (n2 (sh y 5)), m2 y 5, .ptr 4 8, .int .i64 3, fT, .sint .u64 (n4 (sh y 7)), .sint .i64 (n4 (sh y 7)), m4 y 7, .ptr 4 10, fT, .sint .u64 (n1 (sh y 11)), .sint .u8 (n1 (sh y 11) % 256), .ptr 4 2, .ptr 4 2, fT, q8 y 12, .ptr 4 2, .ptr 4 3, fT, .sint .u64 (n2 (sh y 20)), .sint .i64 (n2 (sh y 20)), m2 y 20, .ptr 4 2, .ptr 4 4, fT, q8 y 22, .sint .i64 (IntKind.i64.wrap (n8 (sh y 22))), .sint .i64 (IntKind.i64.wrap (n8 (sh y 22)) - 1), .ptr 4 2, .ptr 4 5, fT, q8 y 30, .ptr 4 2, .ptr 4 6, fT, .int .u64 0, .ptr 4 2, .ptr 4 7, fT, .sint .u64 vh13, .int .u64 0, .tuple [], .tuple [], .tuple [], .tuple [], .tuple [], .tuple [], .tuple [], .tuple [], .tuple [], .tuple [], .tuple [], .tuple [], .tuple [], .tuple [], .tuple [], .tuple [], .tuple [], .tuple [], .tuple [], .tuple [], .tuple [], .tuple [], .tuple [], .tuple [], .tuple []]) [0, 1, 2, 3, 4, 8] ([bk 0 [.data 1 n (by8 y)], bk 1 lpZ, bk 2 [.sint .i64 a], bk 3 [.bool true], bk 4 [.sint .u8 (n1 (sh y 0) % 256), m2 y 1, .sint .u8 (n1 (sh y 11) % 256), q8 y 12, m2 y 20, .sint .i64 (IntKind.i64.wrap (n8 (sh y 22)) - 1), q8 y 30, .int .u64 0, m2 y 5, m2 y 3, m4 y 7, .nilSlice], bk 8 [.ptr 4 1, .ptr 4 9, .ptr 4 8]])) (by kernel_rfl) ?_
             refine hold_stop (fun hd hb => ?_)
             refine ok_loop hd (X := BS n y) bT bG bM [some 0, some 1, some 2, some 3, some 4, none] ⟨0, _, _, fun _ => [], ?_, fun j hj => absurd hj (Nat.not_lt_zero j)⟩ (fits6n (look_get hb 0 rfl rfl).1 (look_get hb 1 rfl rfl).1 (look_get hb 2 rfl rfl).1 (look_get hb 3 rfl rfl).1 (look_get hb 4 rfl rfl).1 (by decide) (lpT_fit fit_n fit_i) fit_n (br_fit fit_nil rfl)) ?_
             focus omega
             rintro ⟨i, a0, c, R, k, hr⟩
             refine ok_sk (.both (.stop [0, 2, 3]) (.stop [])) (S := .fork (decide ((↑i : Int) < c)) (.stop (Hd.call 31 [.int .i64 1, .ptr 0 0, .ptr 2 0, .ptr 3 0]) [0, 2, 3] ([bk 0 [.data 1 n (by8 y)], bk 2 [.sint .i64 a0], bk 3 [.bool true]])) (.stop (Hd.leaf (.tuple [.agg lpZ, .int .i64 5])) [] ([]))) (by kernel_rfl) ?_
             refine hold_forkD (fun h15 => ?_) (fun h15 => ?_)
             ·
              refine hold_stop (fun hd hb => ?_)
              have hz := hr
              refine tk_call hd (tb1 n y _ hn ?_) hb (by decide) (by decide) (by kernel_rfl) fit1_n ?_
              focus omega
              rintro x G ⟨a, v, ha, ha1, hv, hv1, rfl, rfl⟩
              clear hz
              refine ok_sk (.l (.l (.l (.l (.l (.l (.l (.l (.l (.l (.l (.l (.stop [0, 1, 2, 3, 4, 5, 9, 10]))))))))))))) (S := .left (decide (i = i)) (.left (decide ((-9223372036854775808 : Int) ≤ v ∧ v ≤ 9223372036854775807)) (.left (decide ((-9223372036854775808 : Int) ≤ v - 1 ∧ v - 1 ≤ 9223372036854775807)) (.left (decide (v - 1 = v - 1)) (.left (decide ((-9223372036854775808 : Int) ≤ v - 1 ∧ v - 1 ≤ 9223372036854775807)) (.left (decide (v - 1 = v - 1)) (.left (decide ((-9223372036854775808 : Int) ≤ v ∧ v ≤ 9223372036854775807)) (.left (decide (v = v)) (.left (decide (i = i)) (.left (@decide (1 < 65536 ∧ RowsOK 1 1 fun (i : Nat) => List.take 1 (List.drop (i * 1) [.sint .i64 (v - 1)])) pd) (.left (decide (i ≤ i ∧ i < 65536)) (.left (decide (0 ≤ (↑i : Int) + 1 ∧ (↑i : Int) + 1 ≤ 18446744073709551615)) (.stop (Hd.again (again' bT bG bM { i := i, a := a0, c := c, R := R, k := k, hr := hr }) [.top, .ptr 0 0, .ptr 1 0, .top, .ptr 2 0, .ptr 3 0, fT, .ptr 4 0, .top, .top, .top, .top, .top, .top, .top, .top, .top, .top, .top, .top, .top, .top, .top, .top, .top, .top, .top, .top, .top, .top, .top, .top, .top, .top, .top, .top, .top, .top, .top, .top, .top, .top, .top, .top, .top, .top, .top, .top, .top, .top, .top, .top, .top, .top, .top, .top, .top, .top, .top, .top, .top, .top, .top, .top, .top, .top, .sint .u64 c, .sint .u64 ((↑i : Int) + 1), .bool true, .ptr 4 11, .gsl 5 i, fT, .sint .u64 v, .sint .i64 v, .sint .i64 (v - 1), .slice 9 0 1 1 true, .gsl 10 (i + 1), .ptr 4 11, .sint .u64 ((↑i : Int) + 1), .top, .top, .top, .top, .top, .top, .top, .top, .top, .top, .top, .top, .top, .top]) [0, 1, 2, 3, 4, 5, 9, 10] ([bk 0 [.data 1 n (by8 y)], bk 1 lpZ, bk 2 [.sint .i64 a], bk 3 [.bool true], bk 4 [.top, .top, .top, .top, .top, .top, .top, .top, .top, .top, .top, .gsl 10 (i + 1)], (some Blk.dead, none), bk 9 [.sint .i64 (v - 1)], (some (Blk.seq 10 1 (i + 1) (glue i R fun (i : Nat) => List.take 1 (List.drop (i * 1) [.sint .i64 (v - 1)]))), some (1, i + 1, glue i R fun (i : Nat) => List.take 1 (List.drop (i * 1) [.sint .i64 (v - 1)])))])))))))))))))) (by kernel_rfl) ?_
              refine hl (bc fun h17 => by omega) ?_
              refine hl (bc fun h17 => by omega) ?_
              refine hl (bc fun h17 => by omega) ?_
              refine hl (bc fun h17 => by omega) ?_
              refine hl (bc fun h17 => by omega) ?_
              refine hl (bc fun h17 => by omega) ?_
              refine hl (bc fun h17 => by omega) ?_
              refine hl (bc fun h17 => by omega) ?_
              refine hl (bc fun h17 => by omega) ?_
              refine hl (bc fun h17 => by exact h17 ⟨by omega, fun j hj => by obtain rfl : j = 0 := (by omega); exact ⟨rfl, rfl⟩⟩) ?_
              refine hl (bc fun h17 => by omega) ?_
              refine hl (bc fun h17 => by omega) ?_
              refine hold_stop (fun hd hb => ?_)
              have hn := fun j hj => (nfs_glue (i := i) (R := R) (g := fun q => List.take 1 (List.drop (q * 1) [AV.sint .i64 (v - 1)])) hr rfl j hj).2
              refine ok_again hd [some 0, some 1, some 2, some 3, some 4, some 10] ⟨i + 1, _, c, _, ?_, hn⟩ ?_ (fits6b (look_get hb 0 rfl rfl).1 (look_get hb 1 rfl rfl).1 (look_get hb 2 rfl rfl).1 (look_get hb 3 rfl rfl).1 (look_get hb 4 rfl rfl).1 (look_get hb 7 rfl rfl).2 (by decide) (lpT_fit fit_n ⟨rfl, rfl⟩) fit_n (fit_g rfl) hn)
              · omega
              · show (c - ((i + 1 : Nat) : Int)).toNat < (c - (i : Int)).toNat
                omega
             refine hold_stop (fun hd hb => ?_)
             exact ok_leaf0 hd rfl (.inr ⟨fun h => by have := h.1; omega, rfl, rfl⟩)
            refine ok_sk (.stop [0, 2, 3]) (S := .stop (Hd.call 31 [.int .i64 8, .ptr 0 0, .ptr 2 0, .ptr 3 0]) [0, 2, 3] ([bk 0 [.data 1 n (by8 y)], bk 2 [.sint .i64 (0 : Int)], bk 3 [.bool true]])) (by kernel_rfl) ?_
            refine hold_stop (fun hd hb => ?_)
            refine tk_call hd (tb8 n y _ hn ?_) hb (by decide) (by decide) (by kernel_rfl) fit1_n ?_
            focus omega
            rintro x G ⟨a, ha, ha1, rfl, rfl⟩
            refine ok_sk (.stop [0, 2, 3]) (S := .stop (Hd.call 31 [.int .i64 1, .ptr 0 0, .ptr 2 0, .ptr 3 0]) [0, 2, 3] ([bk 0 [.data 1 n (by8 y)], bk 2 [.sint .i64 a], bk 3 [.bool true]])) (by kernel_rfl) ?_
            refine hold_stop (fun hd hb => ?_)
            refine tk_call hd (tb1 n y _ hn ?_) hb (by decide) (by decide) (by kernel_rfl) fit1_n ?_
            focus omega
            rintro x G ⟨a, vh13, ha, ha1, hv, hv1, rfl, rfl⟩
            refine ok_sk (.stop [0, 1, 2, 3, 4, 8]) (S := .stop (Hd.loop 43 [.data 1 n (by8 y), .ptr 0 0, .ptr 1 0, .int .i64 0, .ptr 2 0, .ptr 3 0, fT, .ptr 4 0, .tuple [], .ptr 4 8, fT, fT, .sint .u64 (n1 (sh y 0)), .sint .u8 (n1 (sh y 0) % 256), .ptr 4 0, .ptr 4 1, .ptr 4 9, .ptr 4 8, .slice 8 0 3 3 true, .int .i64 3, .int .i64 3, .bool false, .ptr 8 2, .ptr 4 8, .ptr 4 8, fT, .sint .u64 (n2 (sh y 5)), .sint .i64 (n2 (sh y 5)), m2 y 5, .ptr 4 8, .int .i64 3, fT, .sint .u64 (n4 (sh y 7)), .sint .i64 (n4 (sh y 7)), m4 y 7, .ptr 4 10, fT, .sint .u64 (n1 (sh y 11)), .sint .u8 (n1 (sh y 11) % 256), .ptr 4 2, .ptr 4 2, fT, q8 y 12, .ptr 4 2, .ptr 4 3, fT, .sint .u64 (n2 (sh y 20)), .sint .i64 (n2 (sh y 20)), m2 y 20, .ptr 4 2, .ptr 4 4, fT, q8 y 22, .sint .i64 (IntKind.i64.wrap (n8 (sh y 22))), .sint .i64 (IntKind.i64.wrap (n8 (sh y 22)) - 1), .ptr 4 2, .ptr 4 5, fT, .int .u64 0, .ptr 4 2, .ptr 4 6, fT, AV.unkI IntKind.u64, .ptr 4 2, .ptr 4 7, fT, .sint .u64 vh13, .int .u64 0, .tuple [], .tuple [], .tuple [], .tuple [], .tuple [], .tuple [], .tuple [], .tuple [], .tuple [], .tuple [], .tuple [], .tuple [], .tuple [], .tuple [], .tuple [], .tuple [], .tuple [], .tuple [], .tuple [], .tuple [], .tuple [], .tuple [], .tuple [], .tuple [], .tuple []]) [0, 1, 2, 3, 4, 8] ([bk 0 [.data 1 n (by8 y)], bk 1 lpZ, bk 2 [.sint .i64 a], bk 3 [.bool true], bk 4 [.sint .u8 (n1 (sh y 0) % 256), m2 y 1, .sint .u8 (n1 (sh y 11) % 256), q8 y 12, m2 y 20, .sint .i64 (IntKind.i64.wrap (n8 (sh y 22)) - 1), .int .u64 0, AV.unkI IntKind.u64, m2 y 5, m2 y 3, m4 y 7, .nilSlice], bk 8 [.ptr 4 1, .ptr 4 9, .ptr 4 8]])) (by kernel_rfl) ?_
            refine hold_stop (fun hd hb => ?_)
            refine ok_loop hd (X := BS n y) bT bG bM [some 0, some 1, some 2, some 3, some 4, none] ⟨0, _, _, fun _ => [], ?_, fun j hj => absurd hj (Nat.not_lt_zero j)⟩ (fits6n (look_get hb 0 rfl rfl).1 (look_get hb 1 rfl rfl).1 (look_get hb 2 rfl rfl).1 (look_get hb 3 rfl rfl).1 (look_get hb 4 rfl rfl).1 (by decide) (lpT_fit fit_n fit_i) fit_n (br_fit fit_nil rfl)) ?_
            focus omega
            rintro ⟨i, a0, c, R, k, hr⟩
            refine ok_sk (.both (.stop [0, 2, 3]) (.stop [])) (S := .fork (decide ((↑i : Int) < c)) (.stop (Hd.call 31 [.int .i64 1, .ptr 0 0, .ptr 2 0, .ptr 3 0]) [0, 2, 3] ([bk 0 [.data 1 n (by8 y)], bk 2 [.sint .i64 a0], bk 3 [.bool true]])) (.stop (Hd.leaf (.tuple [.agg lpZ, .int .i64 5])) [] ([]))) (by kernel_rfl) ?_
            refine hold_forkD (fun h15 => ?_) (fun h15 => ?_)
            ·
             refine hold_stop (fun hd hb => ?_)
             have hz := hr
             refine tk_call hd (tb1 n y _ hn ?_) hb (by decide) (by decide) (by kernel_rfl) fit1_n ?_
             focus omega
             rintro x G ⟨a, v, ha, ha1, hv, hv1, rfl, rfl⟩
             clear hz
             refine ok_sk (.l (.l (.l (.l (.l (.l (.l (.l (.l (.l (.l (.l (.stop [0, 1, 2, 3, 4, 5, 9, 10]))))))))))))) (S := .left (decide (i = i)) (.left (decide ((-9223372036854775808 : Int) ≤ v ∧ v ≤ 9223372036854775807)) (.left (decide ((-9223372036854775808 : Int) ≤ v - 1 ∧ v - 1 ≤ 9223372036854775807)) (.left (decide (v - 1 = v - 1)) (.left (decide ((-9223372036854775808 : Int) ≤ v - 1 ∧ v - 1 ≤ 9223372036854775807)) (.left (decide (v - 1 = v - 1)) (.left (decide ((-9223372036854775808 : Int) ≤ v ∧ v ≤ 9223372036854775807)) (.left (decide (v = v)) (.left (decide (i = i)) (.left (@decide (1 < 65536 ∧ RowsOK 1 1 fun (i : Nat) => List.take 1 (List.drop (i * 1) [.sint .i64 (v - 1)])) pd) (.left (decide (i ≤ i ∧ i < 65536)) (.left (decide (0 ≤ (↑i : Int) + 1 ∧ (↑i : Int) + 1 ≤ 18446744073709551615)) (.stop (Hd.again (again' bT bG bM { i := i, a := a0, c := c, R := R, k := k, hr := hr }) [.top, .ptr 0 0, .ptr 1 0, .top, .ptr 2 0, .ptr 3 0, fT, .ptr 4 0, .top, .top, .top, .top, .top, .top, .top, .top, .top, .top, .top, .top, .top, .top, .top, .top, .top, .top, .top, .top, .top, .top, .top, .top, .top, .top, .top, .top, .top, .top, .top, .top, .top, .top, .top, .top, .top, .top, .top, .top, .top, .top, .top, .top, .top, .top, .top, .top, .top, .top, .top, .top, .top, .top, .top, .top, .top, .top, .sint .u64 c, .sint .u64 ((↑i : Int) + 1), .bool true, .ptr 4 11, .gsl 5 i, fT, .sint .u64 v, .sint .i64 v, .sint .i64 (v - 1), .slice 9 0 1 1 true, .gsl 10 (i + 1), .ptr 4 11, .sint .u64 ((↑i : Int) + 1), .top, .top, .top, .top, .top, .top, .top, .top, .top, .top, .top, .top, .top, .top]) [0, 1, 2, 3, 4, 5, 9, 10] ([bk 0 [.data 1 n (by8 y)], bk 1 lpZ, bk 2 [.sint .i64 a], bk 3 [.bool true], bk 4 [.top, .top, .top, .top, .top, .top, .top, .top, .top, .top, .top, .gsl 10 (i + 1)], (some Blk.dead, none), bk 9 [.sint .i64 (v - 1)], (some (Blk.seq 10 1 (i + 1) (glue i R fun (i : Nat) => List.take 1 (List.drop (i * 1) [.sint .i64 (v - 1)]))), some (1, i + 1, glue i R fun (i : Nat) => List.take 1 (List.drop (i * 1) [.sint .i64 (v - 1)])))])))))))))))))) (by kernel_rfl) ?_
             refine hl (bc fun h17 => by omega) ?_
             refine hl (bc fun h17 => by omega) ?_
             refine hl (bc fun h17 => by omega) ?_
             refine hl (bc fun h17 => by omega) ?_
             refine hl (bc fun h17 => by omega) ?_
             refine hl (bc fun h17 => by omega) ?_
             refine hl (bc fun h17 => by omega) ?_
             refine hl (bc fun h17 => by omega) ?_
             refine hl (bc fun h17 => by omega) ?_
             refine hl (bc fun h17 => by exact h17 ⟨by omega, fun j hj => by obtain rfl : j = 0 := (by omega); exact ⟨rfl, rfl⟩⟩) ?_
             refine hl (bc fun h17 => by omega) ?_
             refine hl (bc fun h17 => by omega) ?_
             refine hold_stop (fun hd hb => ?_)
             have hn := fun j hj => (nfs_glue (i := i) (R := R) (g := fun q => List.take 1 (List.drop (q * 1) [AV.sint .i64 (v - 1)])) hr rfl j hj).2
             refine ok_again hd [some 0, some 1, some 2, some 3, some 4, some 10] ⟨i + 1, _, c, _, ?_, hn⟩ ?_ (fits6b (look_get hb 0 rfl rfl).1 (look_get hb 1 rfl rfl).1 (look_get hb 2 rfl rfl).1 (look_get hb 3 rfl rfl).1 (look_get hb 4 rfl rfl).1 (look_get hb 7 rfl rfl).2 (by decide) (lpT_fit fit_n ⟨rfl, rfl⟩) fit_n (fit_g rfl) hn)
             · omega
             · show (c - ((i + 1 : Nat) : Int)).toNat < (c - (i : Int)).toNat
               omega
            refine hold_stop (fun hd hb => ?_)
            exact ok_leaf0 hd rfl (.inr ⟨fun h => by have := h.1; omega, rfl, rfl⟩)
           refine hold_stop (fun hd hb => ?_)
           refine tk_call hd (tk8 n y _ hn ?_) hb (by decide) (by decide) (by kernel_rfl) fit1_n ?_
           focus omega
           rintro x G (⟨h, rfl, rfl⟩ | ⟨h, rfl, rfl⟩)
           ·
            refine ok_sk (.stop [0, 2, 3]) (S := .stop (Hd.call 31 [.int .i64 8, .ptr 0 0, .ptr 2 0, .ptr 3 0]) [0, 2, 3] ([bk 0 [.data 1 n (by8 y)], bk 2 [.sint .i64 (38 : Int)], bk 3 [.bool false]])) (by kernel_rfl) ?_
            refine hold_stop (fun hd hb => ?_)
            refine tk_call hd (tk8 n y _ hn ?_) hb (by decide) (by decide) (by kernel_rfl) fit1_n ?_
            focus omega
            rintro x G (⟨h, rfl, rfl⟩ | ⟨h, rfl, rfl⟩)
            ·
             refine ok_sk (.stop [0, 2, 3]) (S := .stop (Hd.call 31 [.int .i64 1, .ptr 0 0, .ptr 2 0, .ptr 3 0]) [0, 2, 3] ([bk 0 [.data 1 n (by8 y)], bk 2 [.sint .i64 (46 : Int)], bk 3 [.bool false]])) (by kernel_rfl) ?_
             refine hold_stop (fun hd hb => ?_)
             refine tk_call hd (tk1 n y _ hn ?_) hb (by decide) (by decide) (by kernel_rfl) fit1_n ?_
             focus omega
             rintro x G (⟨h, rfl, rfl⟩ | ⟨h, rfl, rfl⟩)
             ·
              refine ok_sk (.stop [0, 1, 2, 3, 4, 8]) (S := .stop (Hd.loop 43 [.data 1 n (by8 y), .ptr 0 0, .ptr 1 0, .int .i64 0, .ptr 2 0, .ptr 3 0, fT, .ptr 4 0, .tuple [], .ptr 4 8, fT, fT, .sint .u64 (n1 (sh y 0)), .sint .u8 (n1 (sh y 0) % 256), .ptr 4 0, .ptr 4 1, .ptr 4 9, .ptr 4 8, .slice 8 0 3 3 true, .int .i64 3, .int .i64 3, .bool false, .ptr 8 2, .ptr 4 8, .ptr 4 8, fT, .sint .u64 (n2 (sh y 5)), .sint .i64 (n2 (sh y 5)), m2 y 5, .ptr 4 8, .int .i64 3, fT, .sint .u64 (n4 (sh y 7)), .sint .i64 (n4 (sh y 7)), m4 y 7, .ptr 4 10, fT, .sint .u64 (n1 (sh y 11)), .sint .u8 (n1 (sh y 11) % 256), .ptr 4 2, .ptr 4 2, fT, q8 y 12, .ptr 4 2, .ptr 4 3, fT, .sint .u64 (n2 (sh y 20)), .sint .i64 (n2 (sh y 20)), m2 y 20, .ptr 4 2, .ptr 4 4, fT, q8 y 22, .sint .i64 (IntKind.i64.wrap (n8 (sh y 22))), .sint .i64 (IntKind.i64.wrap (IntKind.i64.wrap (n8 (sh y 22)) - 1)), .ptr 4 2, .ptr 4 5, fT, q8 y 30, .ptr 4 2, .ptr 4 6, fT, q8 y 38, .ptr 4 2, .ptr 4 7, fT, .sint .u64 (n1 (sh y 46)), .int .u64 0, .tuple [], .tuple [], .tuple [], .tuple [], .tuple [], .tuple [], .tuple [], .tuple [], .tuple [], .tuple [], .tuple [], .tuple [], .tuple [], .tuple [], .tuple [], .tuple [], .tuple [], .tuple [], .tuple [], .tuple [], .tuple [], .tuple [], .tuple [], .tuple [], .tuple []]) [0, 1, 2, 3, 4, 8] ([bk 0 [.data 1 n (by8 y)], bk 1 lpZ, bk 2 [.sint .i64 (47 : Int)], bk 3 [.bool false], bk 4 [.sint .u8 (n1 (sh y 0) % 256), m2 y 1, .sint .u8 (n1 (sh y 11) % 256), q8 y 12, m2 y 20, .sint .i64 (IntKind.i64.wrap (IntKind.i64.wrap (n8 (sh y 22)) - 1)), q8 y 30, q8 y 38, m2 y 5, m2 y 3, m4 y 7, .nilSlice], bk 8 [.ptr 4 1, .ptr 4 9, .ptr 4 8]])) (by kernel_rfl) ?_
              refine hold_stop (fun hd hb => ?_)
              refine ok_loop hd (X := GS n y ⊕ BS n y) gT gG gM [some 0, some 1, some 2, some 3, some 4, none] (.inl ⟨0, IntKind.i64.wrap (IntKind.i64.wrap (n8 (sh y 22)) - 1), ?_, ?_⟩) (fits6n (look_get hb 0 rfl rfl).1 (look_get hb 1 rfl rfl).1 (look_get hb 2 rfl rfl).1 (look_get hb 3 rfl rfl).1 (look_get hb 4 rfl rfl).1 (by decide) (lpT_fit fit_n fit_i) ⟨rfl, rfl⟩ (gr_fit fit_nil rfl)) ?_
              focus omega
              focus exact ⟨fun h => by omega, fun h => by omega⟩
              rintro (⟨i, am, k, hA⟩ | ⟨i, a0, c, R, k, hr⟩)
              all_goals (have bi := n1_bd (sh y (47 + (i : Int)).toNat))
              ·
               refine ok_sk (.both (.stop [0, 2, 3]) (.both (.stop [5]) (.stop []))) (S := .fork (decide ((↑i : Int) < n1 (sh y 46))) (.stop (Hd.call 31 [.int .i64 1, .ptr 0 0, .ptr 2 0, .ptr 3 0]) [0, 2, 3] ([bk 0 [.data 1 n (by8 y)], bk 2 [.sint .i64 ((47 : Int) + (↑i : Int))], bk 3 [.bool false]])) (.fork (decide ((47 : Int) + (↑i : Int) = (↑n : Int))) (.stop (Hd.call 7 [.agg [.sint .u8 (n1 (sh y 0) % 256), .sint .i64 (n2 (sh y 1) - 1), .sint .u8 (n1 (sh y 11) % 256), .sint .u64 (n8 (sh y 12)), .sint .i64 (n2 (sh y 20) - 1), .sint .i64 am, .sint .u64 (n8 (sh y 30)), .sint .u64 (n8 (sh y 38)), .sint .i64 (n2 (sh y 5) - 1), .sint .i64 (n2 (sh y 3) - 1), .sint .i64 (n4 (sh y 7) - 1), .gsl 5 i]]) [5] ([(some (Blk.seq 5 1 i (pk y)), some (1, i, pk y))])) (.stop (Hd.leaf (.tuple [.agg lpZ, .int .i64 5])) [] ([])))) (by kernel_rfl) ?_
               refine hold_forkD (fun h15 => ?_) (fun h15 => ?_)
               ·
                refine hold_stop (fun hd hb => ?_)
                refine tk_call hd (tk1 n y _ hn ?_) hb (by decide) (by decide) (by kernel_rfl) fit1_n ?_
                focus omega
                rintro x G (⟨h, rfl, rfl⟩ | ⟨h, rfl, rfl⟩)
                ·
                 refine ok_sk (.l (.l (.l (.l (.l (.l (.l (.l (.l (.l (.l (.l (.stop [0, 1, 2, 3, 4, 5, 9, 10]))))))))))))) (S := .left (decide (i = i)) (.left (decide ((-9223372036854775808 : Int) ≤ n1 (sh y ((47 : Int) + (↑i : Int)).toNat) ∧ n1 (sh y ((47 : Int) + (↑i : Int)).toNat) ≤ 9223372036854775807)) (.left (decide ((-9223372036854775808 : Int) ≤ n1 (sh y ((47 : Int) + (↑i : Int)).toNat) - 1 ∧ n1 (sh y ((47 : Int) + (↑i : Int)).toNat) - 1 ≤ 9223372036854775807)) (.left (decide (n1 (sh y ((47 : Int) + (↑i : Int)).toNat) - 1 = n1 (sh y ((47 : Int) + (↑i : Int)).toNat) - 1)) (.left (decide ((-9223372036854775808 : Int) ≤ n1 (sh y ((47 : Int) + (↑i : Int)).toNat) - 1 ∧ n1 (sh y ((47 : Int) + (↑i : Int)).toNat) - 1 ≤ 9223372036854775807)) (.left (decide (n1 (sh y ((47 : Int) + (↑i : Int)).toNat) - 1 = n1 (sh y ((47 : Int) + (↑i : Int)).toNat) - 1)) (.left (decide ((-9223372036854775808 : Int) ≤ n1 (sh y ((47 : Int) + (↑i : Int)).toNat) ∧ n1 (sh y ((47 : Int) + (↑i : Int)).toNat) ≤ 9223372036854775807)) (.left (decide (n1 (sh y ((47 : Int) + (↑i : Int)).toNat) = n1 (sh y ((47 : Int) + (↑i : Int)).toNat))) (.left (decide (i = i)) (.left (@decide (1 < 65536 ∧ RowsOK 1 1 fun (i_1 : Nat) => List.take 1 (List.drop (i_1 * 1) [.sint .i64 (n1 (sh y ((47 : Int) + (↑i : Int)).toNat) - 1)])) pd) (.left (decide (i ≤ i ∧ i < 65536)) (.left (decide (0 ≤ (↑i : Int) + 1 ∧ (↑i : Int) + 1 ≤ 18446744073709551615)) (.stop (Hd.again (again' gT gG gM (Sum.inl { i := i, am := am, k := k, ha := hA })) [.top, .ptr 0 0, .ptr 1 0, .top, .ptr 2 0, .ptr 3 0, fT, .ptr 4 0, .top, .top, .top, .top, .top, .top, .top, .top, .top, .top, .top, .top, .top, .top, .top, .top, .top, .top, .top, .top, .top, .top, .top, .top, .top, .top, .top, .top, .top, .top, .top, .top, .top, .top, .top, .top, .top, .top, .top, .top, .top, .top, .top, .top, .top, .top, .top, .top, .top, .top, .top, .top, .top, .top, .top, .top, .top, .top, .sint .u64 (n1 (sh y 46)), .sint .u64 ((↑i : Int) + 1), .bool true, .ptr 4 11, .gsl 5 i, fT, .sint .u64 (n1 (sh y ((47 : Int) + (↑i : Int)).toNat)), .sint .i64 (n1 (sh y ((47 : Int) + (↑i : Int)).toNat)), .sint .i64 (n1 (sh y ((47 : Int) + (↑i : Int)).toNat) - 1), .slice 9 0 1 1 true, .gsl 10 (i + 1), .ptr 4 11, .sint .u64 ((↑i : Int) + 1), .top, .top, .top, .top, .top, .top, .top, .top, .top, .top, .top, .top, .top, .top]) [0, 1, 2, 3, 4, 5, 9, 10] ([bk 0 [.data 1 n (by8 y)], bk 1 lpZ, bk 2 [.sint .i64 ((47 : Int) + (↑i : Int) + 1)], bk 3 [.bool false], bk 4 [.sint .u8 (n1 (sh y 0) % 256), m2 y 1, .sint .u8 (n1 (sh y 11) % 256), q8 y 12, m2 y 20, .sint .i64 am, q8 y 30, q8 y 38, m2 y 5, m2 y 3, m4 y 7, .gsl 10 (i + 1)], (some Blk.dead, none), bk 9 [.sint .i64 (n1 (sh y ((47 : Int) + (↑i : Int)).toNat) - 1)], (some (Blk.seq 10 1 (i + 1) (glue i (pk y) fun (i_1 : Nat) => List.take 1 (List.drop (i_1 * 1) [.sint .i64 (n1 (sh y ((47 : Int) + (↑i : Int)).toNat) - 1)]))), some (1, i + 1, glue i (pk y) fun (i_1 : Nat) => List.take 1 (List.drop (i_1 * 1) [.sint .i64 (n1 (sh y ((47 : Int) + (↑i : Int)).toNat) - 1)])))])))))))))))))) (by kernel_rfl) ?_
                 refine hl (bc fun h17 => by omega) ?_
                 refine hl (bc fun h17 => by omega) ?_
                 refine hl (bc fun h17 => by omega) ?_
                 refine hl (bc fun h17 => by omega) ?_
                 refine hl (bc fun h17 => by omega) ?_
                 refine hl (bc fun h17 => by omega) ?_
                 refine hl (bc fun h17 => by omega) ?_
                 refine hl (bc fun h17 => by omega) ?_
                 refine hl (bc fun h17 => by omega) ?_
                 refine hl (bc fun h17 => by exact h17 ⟨by omega, fun j hj => by obtain rfl : j = 0 := (by omega); exact ⟨rfl, rfl⟩⟩) ?_
                 refine hl (bc fun h17 => by omega) ?_
                 refine hl (bc fun h17 => by omega) ?_
                 refine hold_stop (fun hd hb => ?_)
                 refine ok_again hd [some 0, some 1, some 2, some 3, some 4, some 10] (.inl ⟨i + 1, am, ?_, hA⟩) ?_ (fits6s (look_get hb 0 rfl rfl).1 (look_get hb 1 rfl rfl).1 (look_get hb 2 rfl rfl).1 (look_get hb 3 rfl rfl).1 (look_get hb 4 rfl rfl).1 (look_get hb 7 rfl rfl).2 (by decide) (lpT_fit fit_n ⟨rfl, rfl⟩) ⟨rfl, ?_⟩ (gr_fit (fit_g rfl) rfl) (Nat.le_refl _) (pk_glue ?_))
                 · omega
                 · show (n1 (sh y 46) - ((i + 1 : Nat) : Int)).toNat < (n1 (sh y 46) - (i : Int)).toNat
                   omega
                 · show 47 + ((i + 1 : Nat) : Int) = 47 + (i : Int) + 1
                   omega
                 · show [AV.sint .i64 (n1 (sh y (47 + (i : Int)).toNat) - 1)] = pk y i
                   rw [show (47 + (i : Int)).toNat = 47 + i by omega]
                   rfl
                refine ok_sk (.l (.l (.l (.l (.l (.stop [0, 1, 2, 3, 4, 5, 9, 10])))))) (S := .left (decide (i = i)) (.left (decide (i = i)) (.left (@decide (1 < 65536 ∧ RowsOK 1 1 fun (i : Nat) => List.take 1 (List.drop (i * 1) [.int .i64 (Int.negSucc 0)])) pd) (.left (decide (i ≤ i ∧ i < 65536)) (.left (decide (0 ≤ (↑i : Int) + 1 ∧ (↑i : Int) + 1 ≤ 18446744073709551615)) (.stop (Hd.again (again' gT gG gM (Sum.inl { i := i, am := am, k := k, ha := hA })) [.top, .ptr 0 0, .ptr 1 0, .top, .ptr 2 0, .ptr 3 0, fT, .ptr 4 0, .top, .top, .top, .top, .top, .top, .top, .top, .top, .top, .top, .top, .top, .top, .top, .top, .top, .top, .top, .top, .top, .top, .top, .top, .top, .top, .top, .top, .top, .top, .top, .top, .top, .top, .top, .top, .top, .top, .top, .top, .top, .top, .top, .top, .top, .top, .top, .top, .top, .top, .top, .top, .top, .top, .top, .top, .top, .top, .sint .u64 (n1 (sh y 46)), .sint .u64 ((↑i : Int) + 1), .bool true, .ptr 4 11, .gsl 5 i, fT, .int .u64 0, .int .i64 0, .int .i64 (Int.negSucc 0), .slice 9 0 1 1 true, .gsl 10 (i + 1), .ptr 4 11, .sint .u64 ((↑i : Int) + 1), .top, .top, .top, .top, .top, .top, .top, .top, .top, .top, .top, .top, .top, .top]) [0, 1, 2, 3, 4, 5, 9, 10] ([bk 0 [.data 1 n (by8 y)], bk 1 lpZ, bk 2 [.sint .i64 (0 : Int)], bk 3 [.bool true], bk 4 [.sint .u8 (n1 (sh y 0) % 256), m2 y 1, .sint .u8 (n1 (sh y 11) % 256), q8 y 12, m2 y 20, .sint .i64 am, q8 y 30, q8 y 38, m2 y 5, m2 y 3, m4 y 7, .gsl 10 (i + 1)], (some Blk.dead, none), bk 9 [.int .i64 (Int.negSucc 0)], (some (Blk.seq 10 1 (i + 1) (glue i (pk y) fun (i : Nat) => List.take 1 (List.drop (i * 1) [.int .i64 (Int.negSucc 0)]))), some (1, i + 1, glue i (pk y) fun (i : Nat) => List.take 1 (List.drop (i * 1) [.int .i64 (Int.negSucc 0)])))]))))))) (by kernel_rfl) ?_
                refine hl (bc fun h17 => by omega) ?_
                refine hl (bc fun h17 => by omega) ?_
                refine hl (bc fun h17 => by exact h17 ⟨by omega, fun j hj => by obtain rfl : j = 0 := (by omega); exact ⟨rfl, rfl⟩⟩) ?_
                refine hl (bc fun h17 => by omega) ?_
                refine hl (bc fun h17 => by omega) ?_
                refine hold_stop (fun hd hb => ?_)
                have hn := fun j hj => (nfs_glue (i := i) (R := pk y) (g := fun q => List.take 1 (List.drop (q * 1) [AV.int .i64 (-1)])) (mem_pk rfl) rfl j hj).2
                refine ok_again hd [some 0, some 1, some 2, some 3, some 4, some 10] (.inr ⟨i + 1, _, n1 (sh y 46), _, ?_, hn⟩) ?_ (fits6b (look_get hb 0 rfl rfl).1 (look_get hb 1 rfl rfl).1 (look_get hb 2 rfl rfl).1 (look_get hb 3 rfl rfl).1 (look_get hb 4 rfl rfl).1 (look_get hb 7 rfl rfl).2 (by decide) (lpT_fit fit_n ⟨rfl, rfl⟩) fit_n (fit_g rfl) hn)
                · omega
                · show (n1 (sh y 46) - ((i + 1 : Nat) : Int)).toNat < (n1 (sh y 46) - (i : Int)).toNat
                  omega
               refine hold_forkD (fun h16 => ?_) (fun h16 => ?_)
               ·
                refine hold_stop (fun hd hb => ?_)
                refine ok_call hd (tmay (stY y am) i (pkI y) (by omega) (by show 0 ≤ n1 (sh y 0) % 256; omega)) (st_view (s := stY y am) (look_get hb 0 rfl rfl).2 (Nat.le_refl _) (fun j hj => rfl)) ?_
                rintro x G ⟨rfl, ⟨rfl, my⟩ | ⟨rfl, my⟩⟩ <;> refine ⟨rfl, fun g hg => (by cases hg), ?_⟩
                ·
                 refine ok_sk (.stop [5]) (S := .stop (Hd.leaf (.tuple [.agg [.sint .u8 (n1 (sh y 0) % 256), .sint .i64 (n2 (sh y 1) - 1), .sint .u8 (n1 (sh y 11) % 256), .sint .u64 (n8 (sh y 12)), .sint .i64 (n2 (sh y 20) - 1), .sint .i64 am, .sint .u64 (n8 (sh y 30)), .sint .u64 (n8 (sh y 38)), .sint .i64 (n2 (sh y 5) - 1), .sint .i64 (n2 (sh y 3) - 1), .sint .i64 (n4 (sh y 7) - 1), .gsl 5 i], .int .i64 0])) [5] ([(some (Blk.seq 5 1 i (pk y)), some (1, i, pk y))])) (by kernel_rfl) ?_
                 refine hold_stop (fun hd hb => ?_)
                 obtain ⟨e1, e2, hs⟩ := is_st (n := n) hA my (by omega) (by omega)
                 subst e1
                 subst e2
                 exact ok_leafG hd hb (y := .tuple [.agg ((stY y (n8 (sh y 22) - 1)).row (.gsl 0 (n1 (sh y 46)).toNat)), .int .i64 0]) (by simp [StI.row, stY, fitA, fitsA, nf]) (Nat.le_refl _) (fun j hj => ⟨rfl, rfl⟩) (.inl ⟨hs, rfl, rfl⟩)
                refine ok_sk (.stop []) (S := .stop (Hd.leaf (.tuple [.agg lpZ, .int .i64 5])) [] ([])) (by kernel_rfl) ?_
                refine hold_stop (fun hd hb => ?_)
                exact ok_leaf0 hd rfl (.inr ⟨no_st hA my (by omega), rfl, rfl⟩)
               refine hold_stop (fun hd hb => ?_)
               exact ok_leaf0 hd rfl (.inr ⟨fun h => by have := h.1; omega, rfl, rfl⟩)
              refine ok_sk (.both (.stop [0, 2, 3]) (.stop [])) (S := .fork (decide ((↑i : Int) < c)) (.stop (Hd.call 31 [.int .i64 1, .ptr 0 0, .ptr 2 0, .ptr 3 0]) [0, 2, 3] ([bk 0 [.data 1 n (by8 y)], bk 2 [.sint .i64 a0], bk 3 [.bool true]])) (.stop (Hd.leaf (.tuple [.agg lpZ, .int .i64 5])) [] ([]))) (by kernel_rfl) ?_
              refine hold_forkD (fun h15 => ?_) (fun h15 => ?_)
              ·
               refine hold_stop (fun hd hb => ?_)
               have hz := hr
               refine tk_call hd (tb1 n y _ hn ?_) hb (by decide) (by decide) (by kernel_rfl) fit1_n ?_
               focus omega
               rintro x G ⟨a, v, ha, ha1, hv, hv1, rfl, rfl⟩
               clear hz
               refine ok_sk (.l (.l (.l (.l (.l (.l (.l (.l (.l (.l (.l (.l (.stop [0, 1, 2, 3, 4, 5, 9, 10]))))))))))))) (S := .left (decide (i = i)) (.left (decide ((-9223372036854775808 : Int) ≤ v ∧ v ≤ 9223372036854775807)) (.left (decide ((-9223372036854775808 : Int) ≤ v - 1 ∧ v - 1 ≤ 9223372036854775807)) (.left (decide (v - 1 = v - 1)) (.left (decide ((-9223372036854775808 : Int) ≤ v - 1 ∧ v - 1 ≤ 9223372036854775807)) (.left (decide (v - 1 = v - 1)) (.left (decide ((-9223372036854775808 : Int) ≤ v ∧ v ≤ 9223372036854775807)) (.left (decide (v = v)) (.left (decide (i = i)) (.left (@decide (1 < 65536 ∧ RowsOK 1 1 fun (i : Nat) => List.take 1 (List.drop (i * 1) [.sint .i64 (v - 1)])) pd) (.left (decide (i ≤ i ∧ i < 65536)) (.left (decide (0 ≤ (↑i : Int) + 1 ∧ (↑i : Int) + 1 ≤ 18446744073709551615)) (.stop (Hd.again (again' gT gG gM (Sum.inr { i := i, a := a0, c := c, R := R, k := k, hr := hr })) [.top, .ptr 0 0, .ptr 1 0, .top, .ptr 2 0, .ptr 3 0, fT, .ptr 4 0, .top, .top, .top, .top, .top, .top, .top, .top, .top, .top, .top, .top, .top, .top, .top, .top, .top, .top, .top, .top, .top, .top, .top, .top, .top, .top, .top, .top, .top, .top, .top, .top, .top, .top, .top, .top, .top, .top, .top, .top, .top, .top, .top, .top, .top, .top, .top, .top, .top, .top, .top, .top, .top, .top, .top, .top, .top, .top, .sint .u64 c, .sint .u64 ((↑i : Int) + 1), .bool true, .ptr 4 11, .gsl 5 i, fT, .sint .u64 v, .sint .i64 v, .sint .i64 (v - 1), .slice 9 0 1 1 true, .gsl 10 (i + 1), .ptr 4 11, .sint .u64 ((↑i : Int) + 1), .top, .top, .top, .top, .top, .top, .top, .top, .top, .top, .top, .top, .top, .top]) [0, 1, 2, 3, 4, 5, 9, 10] ([bk 0 [.data 1 n (by8 y)], bk 1 lpZ, bk 2 [.sint .i64 a], bk 3 [.bool true], bk 4 [.top, .top, .top, .top, .top, .top, .top, .top, .top, .top, .top, .gsl 10 (i + 1)], (some Blk.dead, none), bk 9 [.sint .i64 (v - 1)], (some (Blk.seq 10 1 (i + 1) (glue i R fun (i : Nat) => List.take 1 (List.drop (i * 1) [.sint .i64 (v - 1)]))), some (1, i + 1, glue i R fun (i : Nat) => List.take 1 (List.drop (i * 1) [.sint .i64 (v - 1)])))])))))))))))))) (by kernel_rfl) ?_
               refine hl (bc fun h17 => by omega) ?_
               refine hl (bc fun h17 => by omega) ?_
               refine hl (bc fun h17 => by omega) ?_
               refine hl (bc fun h17 => by omega) ?_
               refine hl (bc fun h17 => by omega) ?_
               refine hl (bc fun h17 => by omega) ?_
               refine hl (bc fun h17 => by omega) ?_
               refine hl (bc fun h17 => by omega) ?_
               refine hl (bc fun h17 => by omega) ?_
               refine hl (bc fun h17 => by exact h17 ⟨by omega, fun j hj => by obtain rfl : j = 0 := (by omega); exact ⟨rfl, rfl⟩⟩) ?_
               refine hl (bc fun h17 => by omega) ?_
               refine hl (bc fun h17 => by omega) ?_
               refine hold_stop (fun hd hb => ?_)
               have hn := fun j hj => (nfs_glue (i := i) (R := R) (g := fun q => List.take 1 (List.drop (q * 1) [AV.sint .i64 (v - 1)])) hr rfl j hj).2
               refine ok_again hd [some 0, some 1, some 2, some 3, some 4, some 10] (.inr ⟨i + 1, _, c, _, ?_, hn⟩) ?_ (fits6b (look_get hb 0 rfl rfl).1 (look_get hb 1 rfl rfl).1 (look_get hb 2 rfl rfl).1 (look_get hb 3 rfl rfl).1 (look_get hb 4 rfl rfl).1 (look_get hb 7 rfl rfl).2 (by decide) (lpT_fit fit_n ⟨rfl, rfl⟩) fit_n (fit_g rfl) hn)
               · omega
               · show (c - ((i + 1 : Nat) : Int)).toNat < (c - (i : Int)).toNat
                 omega
              refine hold_stop (fun hd hb => ?_)
              exact ok_leaf0 hd rfl (.inr ⟨fun h => by have := h.1; omega, rfl, rfl⟩)
             refine ok_sk (.stop [0, 1, 2, 3, 4, 8]) (S := .stop (Hd.loop 43 [.data 1 n (by8 y), .ptr 0 0, .ptr 1 0, .int .i64 0, .ptr 2 0, .ptr 3 0, fT, .ptr 4 0, .tuple [], .ptr 4 8, fT, fT, .sint .u64 (n1 (sh y 0)), .sint .u8 (n1 (sh y 0) % 256), .ptr 4 0, .ptr 4 1, .ptr 4 9, .ptr 4 8, .slice 8 0 3 3 true, .int .i64 3, .int .i64 3, .bool false, .ptr 8 2, .ptr 4 8, .ptr 4 8, fT, .sint .u64 (n2 (sh y 5)), .sint .i64 (n2 (sh y 5)), m2 y 5, .ptr 4 8, .int .i64 3, fT, .sint .u64 (n4 (sh y 7)), .sint .i64 (n4 (sh y 7)), m4 y 7, .ptr 4 10, fT, .sint .u64 (n1 (sh y 11)), .sint .u8 (n1 (sh y 11) % 256), .ptr 4 2, .ptr 4 2, fT, q8 y 12, .ptr 4 2, .ptr 4 3, fT, .sint .u64 (n2 (sh y 20)), .sint .i64 (n2 (sh y 20)), m2 y 20, .ptr 4 2, .ptr 4 4, fT, q8 y 22, .sint .i64 (IntKind.i64.wrap (n8 (sh y 22))), .sint .i64 (IntKind.i64.wrap (IntKind.i64.wrap (n8 (sh y 22)) - 1)), .ptr 4 2, .ptr 4 5, fT, q8 y 30, .ptr 4 2, .ptr 4 6, fT, q8 y 38, .ptr 4 2, .ptr 4 7, fT, .int .u64 0, .int .u64 0, .tuple [], .tuple [], .tuple [], .tuple [], .tuple [], .tuple [], .tuple [], .tuple [], .tuple [], .tuple [], .tuple [], .tuple [], .tuple [], .tuple [], .tuple [], .tuple [], .tuple [], .tuple [], .tuple [], .tuple [], .tuple [], .tuple [], .tuple [], .tuple [], .tuple []]) [0, 1, 2, 3, 4, 8] ([bk 0 [.data 1 n (by8 y)], bk 1 lpZ, bk 2 [.sint .i64 (0 : Int)], bk 3 [.bool true], bk 4 [.sint .u8 (n1 (sh y 0) % 256), m2 y 1, .sint .u8 (n1 (sh y 11) % 256), q8 y 12, m2 y 20, .sint .i64 (IntKind.i64.wrap (IntKind.i64.wrap (n8 (sh y 22)) - 1)), q8 y 30, q8 y 38, m2 y 5, m2 y 3, m4 y 7, .nilSlice], bk 8 [.ptr 4 1, .ptr 4 9, .ptr 4 8]])) (by kernel_rfl) ?_
             refine hold_stop (fun hd hb => ?_)
             refine ok_loop hd (X := BS n y) bT bG bM [some 0, some 1, some 2, some 3, some 4, none] ⟨0, _, _, fun _ => [], ?_, fun j hj => absurd hj (Nat.not_lt_zero j)⟩ (fits6n (look_get hb 0 rfl rfl).1 (look_get hb 1 rfl rfl).1 (look_get hb 2 rfl rfl).1 (look_get hb 3 rfl rfl).1 (look_get hb 4 rfl rfl).1 (by decide) (lpT_fit fit_i fit_i) fit_n (br_fit fit_nil rfl)) ?_
             focus omega
             rintro ⟨i, a0, c, R, k, hr⟩
             refine ok_sk (.both (.stop [0, 2, 3]) (.stop [])) (S := .fork (decide ((↑i : Int) < c)) (.stop (Hd.call 31 [.int .i64 1, .ptr 0 0, .ptr 2 0, .ptr 3 0]) [0, 2, 3] ([bk 0 [.data 1 n (by8 y)], bk 2 [.sint .i64 a0], bk 3 [.bool true]])) (.stop (Hd.leaf (.tuple [.agg lpZ, .int .i64 5])) [] ([]))) (by kernel_rfl) ?_
             refine hold_forkD (fun h15 => ?_) (fun h15 => ?_)
             ·
              refine hold_stop (fun hd hb => ?_)
              have hz := hr
              refine tk_call hd (tb1 n y _ hn ?_) hb (by decide) (by decide) (by kernel_rfl) fit1_n ?_
              focus omega
              rintro x G ⟨a, v, ha, ha1, hv, hv1, rfl, rfl⟩
              clear hz
              refine ok_sk (.l (.l (.l (.l (.l (.l (.l (.l (.l (.l (.l (.l (.stop [0, 1, 2, 3, 4, 5, 9, 10]))))))))))))) (S := .left (decide (i = i)) (.left (decide ((-9223372036854775808 : Int) ≤ v ∧ v ≤ 9223372036854775807)) (.left (decide ((-9223372036854775808 : Int) ≤ v - 1 ∧ v - 1 ≤ 9223372036854775807)) (.left (decide (v - 1 = v - 1)) (.left (decide ((-9223372036854775808 : Int) ≤ v - 1 ∧ v - 1 ≤ 9223372036854775807)) (.left (decide (v - 1 = v - 1)) (.left (decide ((-9223372036854775808 : Int) ≤ v ∧ v ≤ 9223372036854775807)) (.left (decide (v = v)) (.left (decide (i = i)) (.left (@decide (1 < 65536 ∧ RowsOK 1 1 fun (i : Nat) => List.take 1 (List.drop (i * 1) [.sint .i64 (v - 1)])) pd) (.left (decide (i ≤ i ∧ i < 65536)) (.left (decide (0 ≤ (↑i : Int) + 1 ∧ (↑i : Int) + 1 ≤ 18446744073709551615)) (.stop (Hd.again (again' bT bG bM { i := i, a := a0, c := c, R := R, k := k, hr := hr }) [.top, .ptr 0 0, .ptr 1 0, .top, .ptr 2 0, .ptr 3 0, fT, .ptr 4 0, .top, .top, .top, .top, .top, .top, .top, .top, .top, .top, .top, .top, .top, .top, .top, .top, .top, .top, .top, .top, .top, .top, .top, .top, .top, .top, .top, .top, .top, .top, .top, .top, .top, .top, .top, .top, .top, .top, .top, .top, .top, .top, .top, .top, .top, .top, .top, .top, .top, .top, .top, .top, .top, .top, .top, .top, .top, .top, .sint .u64 c, .sint .u64 ((↑i : Int) + 1), .bool true, .ptr 4 11, .gsl 5 i, fT, .sint .u64 v, .sint .i64 v, .sint .i64 (v - 1), .slice 9 0 1 1 true, .gsl 10 (i + 1), .ptr 4 11, .sint .u64 ((↑i : Int) + 1), .top, .top, .top, .top, .top, .top, .top, .top, .top, .top, .top, .top, .top, .top]) [0, 1, 2, 3, 4, 5, 9, 10] ([bk 0 [.data 1 n (by8 y)], bk 1 lpZ, bk 2 [.sint .i64 a], bk 3 [.bool true], bk 4 [.top, .top, .top, .top, .top, .top, .top, .top, .top, .top, .top, .gsl 10 (i + 1)], (some Blk.dead, none), bk 9 [.sint .i64 (v - 1)], (some (Blk.seq 10 1 (i + 1) (glue i R fun (i : Nat) => List.take 1 (List.drop (i * 1) [.sint .i64 (v - 1)]))), some (1, i + 1, glue i R fun (i : Nat) => List.take 1 (List.drop (i * 1) [.sint .i64 (v - 1)])))])))))))))))))) (by kernel_rfl) ?_
              refine hl (bc fun h17 => by omega) ?_
              refine hl (bc fun h17 => by omega) ?_
              refine hl (bc fun h17 => by omega) ?_
              refine hl (bc fun h17 => by omega) ?_
              refine hl (bc fun h17 => by omega) ?_
              refine hl (bc fun h17 => by omega) ?_
              refine hl (bc fun h17 => by omega) ?_
              refine hl (bc fun h17 => by omega) ?_
              refine hl (bc fun h17 => by omega) ?_
              refine hl (bc fun h17 => by exact h17 ⟨by omega, fun j hj => by obtain rfl : j = 0 := (by omega); exact ⟨rfl, rfl⟩⟩) ?_
              refine hl (bc fun h17 => by omega) ?_
              refine hl (bc fun h17 => by omega) ?_
              refine hold_stop (fun hd hb => ?_)
              have hn := fun j hj => (nfs_glue (i := i) (R := R) (g := fun q => List.take 1 (List.drop (q * 1) [AV.sint .i64 (v - 1)])) hr rfl j hj).2
              refine ok_again hd [some 0, some 1, some 2, some 3, some 4, some 10] ⟨i + 1, _, c, _, ?_, hn⟩ ?_ (fits6b (look_get hb 0 rfl rfl).1 (look_get hb 1 rfl rfl).1 (look_get hb 2 rfl rfl).1 (look_get hb 3 rfl rfl).1 (look_get hb 4 rfl rfl).1 (look_get hb 7 rfl rfl).2 (by decide) (lpT_fit fit_n ⟨rfl, rfl⟩) fit_n (fit_g rfl) hn)
              · omega
              · show (c - ((i + 1 : Nat) : Int)).toNat < (c - (i : Int)).toNat
                omega
             refine hold_stop (fun hd hb => ?_)
             exact ok_leaf0 hd rfl (.inr ⟨fun h => by have := h.1; omega, rfl, rfl⟩)
            refine ok_sk (.stop [0, 2, 3]) (S := .stop (Hd.call 31 [.int .i64 1, .ptr 0 0, .ptr 2 0, .ptr 3 0]) [0, 2, 3] ([bk 0 [.data 1 n (by8 y)], bk 2 [.sint .i64 (0 : Int)], bk 3 [.bool true]])) (by kernel_rfl) ?_
            refine hold_stop (fun hd hb => ?_)
            refine tk_call hd (tb1 n y _ hn ?_) hb (by decide) (by decide) (by kernel_rfl) fit1_n ?_
            focus omega
            rintro x G ⟨a, vh13, ha, ha1, hv, hv1, rfl, rfl⟩
            refine ok_sk (.stop [0, 1, 2, 3, 4, 8]) (S := .stop (Hd.loop 43 [.data 1 n (by8 y), .ptr 0 0, .ptr 1 0, .int .i64 0, .ptr 2 0, .ptr 3 0, fT, .ptr 4 0, .tuple [], .ptr 4 8, fT, fT, .sint .u64 (n1 (sh y 0)), .sint .u8 (n1 (sh y 0) % 256), .ptr 4 0, .ptr 4 1, .ptr 4 9, .ptr 4 8, .slice 8 0 3 3 true, .int .i64 3, .int .i64 3, .bool false, .ptr 8 2, .ptr 4 8, .ptr 4 8, fT, .sint .u64 (n2 (sh y 5)), .sint .i64 (n2 (sh y 5)), m2 y 5, .ptr 4 8, .int .i64 3, fT, .sint .u64 (n4 (sh y 7)), .sint .i64 (n4 (sh y 7)), m4 y 7, .ptr 4 10, fT, .sint .u64 (n1 (sh y 11)), .sint .u8 (n1 (sh y 11) % 256), .ptr 4 2, .ptr 4 2, fT, q8 y 12, .ptr 4 2, .ptr 4 3, fT, .sint .u64 (n2 (sh y 20)), .sint .i64 (n2 (sh y 20)), m2 y 20, .ptr 4 2, .ptr 4 4, fT, q8 y 22, .sint .i64 (IntKind.i64.wrap (n8 (sh y 22))), .sint .i64 (IntKind.i64.wrap (IntKind.i64.wrap (n8 (sh y 22)) - 1)), .ptr 4 2, .ptr 4 5, fT, q8 y 30, .ptr 4 2, .ptr 4 6, fT, .int .u64 0, .ptr 4 2, .ptr 4 7, fT, .sint .u64 vh13, .int .u64 0, .tuple [], .tuple [], .tuple [], .tuple [], .tuple [], .tuple [], .tuple [], .tuple [], .tuple [], .tuple [], .tuple [], .tuple [], .tuple [], .tuple [], .tuple [], .tuple [], .tuple [], .tuple [], .tuple [], .tuple [], .tuple [], .tuple [], .tuple [], .tuple [], .tuple []]) [0, 1, 2, 3, 4, 8] ([bk 0 [.data 1 n (by8 y)], bk 1 lpZ, bk 2 [.sint .i64 a], bk 3 [.bool true], bk 4 [.sint .u8 (n1 (sh y 0) % 256), m2 y 1, .sint .u8 (n1 (sh y 11) % 256), q8 y 12, m2 y 20, .sint .i64 (IntKind.i64.wrap (IntKind.i64.wrap (n8 (sh y 22)) - 1)), q8 y 30, .int .u64 0, m2 y 5, m2 y 3, m4 y 7, .nilSlice], bk 8 [.ptr 4 1, .ptr 4 9, .ptr 4 8]])) (by kernel_rfl) ?_
            refine hold_stop (fun hd hb => ?_)
            refine ok_loop hd (X := BS n y) bT bG bM [some 0, some 1, some 2, some 3, some 4, none] ⟨0, _, _, fun _ => [], ?_, fun j hj => absurd hj (Nat.not_lt_zero j)⟩ (fits6n (look_get hb 0 rfl rfl).1 (look_get hb 1 rfl rfl).1 (look_get hb 2 rfl rfl).1 (look_get hb 3 rfl rfl).1 (look_get hb 4 rfl rfl).1 (by decide) (lpT_fit fit_n fit_i) fit_n (br_fit fit_nil rfl)) ?_
            focus omega
            rintro ⟨i, a0, c, R, k, hr⟩
            refine ok_sk (.both (.stop [0, 2, 3]) (.stop [])) (S := .fork (decide ((↑i : Int) < c)) (.stop (Hd.call 31 [.int .i64 1, .ptr 0 0, .ptr 2 0, .ptr 3 0]) [0, 2, 3] ([bk 0 [.data 1 n (by8 y)], bk 2 [.sint .i64 a0], bk 3 [.bool true]])) (.stop (Hd.leaf (.tuple [.agg lpZ, .int .i64 5])) [] ([]))) (by kernel_rfl) ?_
            refine hold_forkD (fun h15 => ?_) (fun h15 => ?_)
            ·
             refine hold_stop (fun hd hb => ?_)
             have hz := hr
             refine tk_call hd (tb1 n y _ hn ?_) hb (by decide) (by decide) (by kernel_rfl) fit1_n ?_
             focus omega
             rintro x G ⟨a, v, ha, ha1, hv, hv1, rfl, rfl⟩
             clear hz
             refine ok_sk (.l (.l (.l (.l (.l (.l (.l (.l (.l (.l (.l (.l (.stop [0, 1, 2, 3, 4, 5, 9, 10]))))))))))))) (S := .left (decide (i = i)) (.left (decide ((-9223372036854775808 : Int) ≤ v ∧ v ≤ 9223372036854775807)) (.left (decide ((-9223372036854775808 : Int) ≤ v - 1 ∧ v - 1 ≤ 9223372036854775807)) (.left (decide (v - 1 = v - 1)) (.left (decide ((-9223372036854775808 : Int) ≤ v - 1 ∧ v - 1 ≤ 9223372036854775807)) (.left (decide (v - 1 = v - 1)) (.left (decide ((-9223372036854775808 : Int) ≤ v ∧ v ≤ 9223372036854775807)) (.left (decide (v = v)) (.left (decide (i = i)) (.left (@decide (1 < 65536 ∧ RowsOK 1 1 fun (i : Nat) => List.take 1 (List.drop (i * 1) [.sint .i64 (v - 1)])) pd) (.left (decide (i ≤ i ∧ i < 65536)) (.left (decide (0 ≤ (↑i : Int) + 1 ∧ (↑i : Int) + 1 ≤ 18446744073709551615)) (.stop (Hd.again (again' bT bG bM { i := i, a := a0, c := c, R := R, k := k, hr := hr }) [.top, .ptr 0 0, .ptr 1 0, .top, .ptr 2 0, .ptr 3 0, fT, .ptr 4 0, .top, .top, .top, .top, .top, .top, .top, .top, .top, .top, .top, .top, .top, .top, .top, .top, .top, .top, .top, .top, .top, .top, .top, .top, .top, .top, .top, .top, .top, .top, .top, .top, .top, .top, .top, .top, .top, .top, .top, .top, .top, .top, .top, .top, .top, .top, .top, .top, .top, .top, .top, .top, .top, .top, .top, .top, .top, .top, .sint .u64 c, .sint .u64 ((↑i : Int) + 1), .bool true, .ptr 4 11, .gsl 5 i, fT, .sint .u64 v, .sint .i64 v, .sint .i64 (v - 1), .slice 9 0 1 1 true, .gsl 10 (i + 1), .ptr 4 11, .sint .u64 ((↑i : Int) + 1), .top, .top, .top, .top, .top, .top, .top, .top, .top, .top, .top, .top, .top, .top]) [0, 1, 2, 3, 4, 5, 9, 10] ([bk 0 [.data 1 n (by8 y)], bk 1 lpZ, bk 2 [.sint .i64 a], bk 3 [.bool true], bk 4 [.top, .top, .top, .top, .top, .top, .top, .top, .top, .top, .top, .gsl 10 (i + 1)], (some Blk.dead, none), bk 9 [.sint .i64 (v - 1)], (some (Blk.seq 10 1 (i + 1) (glue i R fun (i : Nat) => List.take 1 (List.drop (i * 1) [.sint .i64 (v - 1)]))), some (1, i + 1, glue i R fun (i : Nat) => List.take 1 (List.drop (i * 1) [.sint .i64 (v - 1)])))])))))))))))))) (by kernel_rfl) ?_
             refine hl (bc fun h17 => by omega) ?_
             refine hl (bc fun h17 => by omega) ?_
             refine hl (bc fun h17 => by omega) ?_
             refine hl (bc fun h17 => by omega) ?_
             refine hl (bc fun h17 => by omega) ?_
             refine hl (bc fun h17 => by omega) ?_
             refine hl (bc fun h17 => by omega) ?_
             refine hl (bc fun h17 => by omega) ?_
             refine hl (bc fun h17 => by omega) ?_
             refine hl (bc fun h17 => by exact h17 ⟨by omega, fun j hj => by obtain rfl : j = 0 := (by omega); exact ⟨rfl, rfl⟩⟩) ?_
             refine hl (bc fun h17 => by omega) ?_
             refine hl (bc fun h17 => by omega) ?_
             refine hold_stop (fun hd hb => ?_)
             have hn := fun j hj => (nfs_glue (i := i) (R := R) (g := fun q => List.take 1 (List.drop (q * 1) [AV.sint .i64 (v - 1)])) hr rfl j hj).2
             refine ok_again hd [some 0, some 1, some 2, some 3, some 4, some 10] ⟨i + 1, _, c, _, ?_, hn⟩ ?_ (fits6b (look_get hb 0 rfl rfl).1 (look_get hb 1 rfl rfl).1 (look_get hb 2 rfl rfl).1 (look_get hb 3 rfl rfl).1 (look_get hb 4 rfl rfl).1 (look_get hb 7 rfl rfl).2 (by decide) (lpT_fit fit_n ⟨rfl, rfl⟩) fit_n (fit_g rfl) hn)
             · omega
             · show (c - ((i + 1 : Nat) : Int)).toNat < (c - (i : Int)).toNat
               omega
            refine hold_stop (fun hd hb => ?_)
            exact ok_leaf0 hd rfl (.inr ⟨fun h => by have := h.1; omega, rfl, rfl⟩)
           refine ok_sk (.stop [0, 2, 3]) (S := .stop (Hd.call 31 [.int .i64 8, .ptr 0 0, .ptr 2 0, .ptr 3 0]) [0, 2, 3] ([bk 0 [.data 1 n (by8 y)], bk 2 [.sint .i64 (0 : Int)], bk 3 [.bool true]])) (by kernel_rfl) ?_
           refine hold_stop (fun hd hb => ?_)
           refine tk_call hd (tb8 n y _ hn ?_) hb (by decide) (by decide) (by kernel_rfl) fit1_n ?_
           focus omega
           rintro x G ⟨a, ha, ha1, rfl, rfl⟩
           refine ok_sk (.stop [0, 2, 3]) (S := .stop (Hd.call 31 [.int .i64 1, .ptr 0 0, .ptr 2 0, .ptr 3 0]) [0, 2, 3] ([bk 0 [.data 1 n (by8 y)], bk 2 [.sint .i64 a], bk 3 [.bool true]])) (by kernel_rfl) ?_
           refine hold_stop (fun hd hb => ?_)
           refine tk_call hd (tb1 n y _ hn ?_) hb (by decide) (by decide) (by kernel_rfl) fit1_n ?_
           focus omega
           rintro x G ⟨a, vh13, ha, ha1, hv, hv1, rfl, rfl⟩
           refine ok_sk (.stop [0, 1, 2, 3, 4, 8]) (S := .stop (Hd.loop 43 [.data 1 n (by8 y), .ptr 0 0, .ptr 1 0, .int .i64 0, .ptr 2 0, .ptr 3 0, fT, .ptr 4 0, .tuple [], .ptr 4 8, fT, fT, .sint .u64 (n1 (sh y 0)), .sint .u8 (n1 (sh y 0) % 256), .ptr 4 0, .ptr 4 1, .ptr 4 9, .ptr 4 8, .slice 8 0 3 3 true, .int .i64 3, .int .i64 3, .bool false, .ptr 8 2, .ptr 4 8, .ptr 4 8, fT, .sint .u64 (n2 (sh y 5)), .sint .i64 (n2 (sh y 5)), m2 y 5, .ptr 4 8, .int .i64 3, fT, .sint .u64 (n4 (sh y 7)), .sint .i64 (n4 (sh y 7)), m4 y 7, .ptr 4 10, fT, .sint .u64 (n1 (sh y 11)), .sint .u8 (n1 (sh y 11) % 256), .ptr 4 2, .ptr 4 2, fT, q8 y 12, .ptr 4 2, .ptr 4 3, fT, .sint .u64 (n2 (sh y 20)), .sint .i64 (n2 (sh y 20)), m2 y 20, .ptr 4 2, .ptr 4 4, fT, q8 y 22, .sint .i64 (IntKind.i64.wrap (n8 (sh y 22))), .sint .i64 (IntKind.i64.wrap (IntKind.i64.wrap (n8 (sh y 22)) - 1)), .ptr 4 2, .ptr 4 5, fT, .int .u64 0, .ptr 4 2, .ptr 4 6, fT, AV.unkI IntKind.u64, .ptr 4 2, .ptr 4 7, fT, .sint .u64 vh13, .int .u64 0, .tuple [], .tuple [], .tuple [], .tuple [], .tuple [], .tuple [], .tuple [], .tuple [], .tuple [], .tuple [], .tuple [], .tuple [], .tuple [], .tuple [], .tuple [], .tuple [], .tuple [], .tuple [], .tuple [], .tuple [], .tuple [], .tuple [], .tuple [], .tuple [], .tuple []]) [0, 1, 2, 3, 4, 8] ([bk 0 [.data 1 n (by8 y)], bk 1 lpZ, bk 2 [.sint .i64 a], bk 3 [.bool true], bk 4 [.sint .u8 (n1 (sh y 0) % 256), m2 y 1, .sint .u8 (n1 (sh y 11) % 256), q8 y 12, m2 y 20, .sint .i64 (IntKind.i64.wrap (IntKind.i64.wrap (n8 (sh y 22)) - 1)), .int .u64 0, AV.unkI IntKind.u64, m2 y 5, m2 y 3, m4 y 7, .nilSlice], bk 8 [.ptr 4 1, .ptr 4 9, .ptr 4 8]])) (by kernel_rfl) ?_
           refine hold_stop (fun hd hb => ?_)
           refine ok_loop hd (X := BS n y) bT bG bM [some 0, some 1, some 2, some 3, some 4, none] ⟨0, _, _, fun _ => [], ?_, fun j hj => absurd hj (Nat.not_lt_zero j)⟩ (fits6n (look_get hb 0 rfl rfl).1 (look_get hb 1 rfl rfl).1 (look_get hb 2 rfl rfl).1 (look_get hb 3 rfl rfl).1 (look_get hb 4 rfl rfl).1 (by decide) (lpT_fit fit_n fit_i) fit_n (br_fit fit_nil rfl)) ?_
           focus omega
           rintro ⟨i, a0, c, R, k, hr⟩
           refine ok_sk (.both (.stop [0, 2, 3]) (.stop [])) (S := .fork (decide ((↑i : Int) < c)) (.stop (Hd.call 31 [.int .i64 1, .ptr 0 0, .ptr 2 0, .ptr 3 0]) [0, 2, 3] ([bk 0 [.data 1 n (by8 y)], bk 2 [.sint .i64 a0], bk 3 [.bool true]])) (.stop (Hd.leaf (.tuple [.agg lpZ, .int .i64 5])) [] ([]))) (by kernel_rfl) ?_
           refine hold_forkD (fun h15 => ?_) (fun h15 => ?_)
           ·
            refine hold_stop (fun hd hb => ?_)
            have hz := hr
            refine tk_call hd (tb1 n y _ hn ?_) hb (by decide) (by decide) (by kernel_rfl) fit1_n ?_
            focus omega
            rintro x G ⟨a, v, ha, ha1, hv, hv1, rfl, rfl⟩
            clear hz
            refine ok_sk (.l (.l (.l (.l (.l (.l (.l (.l (.l (.l (.l (.l (.stop [0, 1, 2, 3, 4, 5, 9, 10]))))))))))))) (S := .left (decide (i = i)) (.left (decide ((-9223372036854775808 : Int) ≤ v ∧ v ≤ 9223372036854775807)) (.left (decide ((-9223372036854775808 : Int) ≤ v - 1 ∧ v - 1 ≤ 9223372036854775807)) (.left (decide (v - 1 = v - 1)) (.left (decide ((-9223372036854775808 : Int) ≤ v - 1 ∧ v - 1 ≤ 9223372036854775807)) (.left (decide (v - 1 = v - 1)) (.left (decide ((-9223372036854775808 : Int) ≤ v ∧ v ≤ 9223372036854775807)) (.left (decide (v = v)) (.left (decide (i = i)) (.left (@decide (1 < 65536 ∧ RowsOK 1 1 fun (i : Nat) => List.take 1 (List.drop (i * 1) [.sint .i64 (v - 1)])) pd) (.left (decide (i ≤ i ∧ i < 65536)) (.left (decide (0 ≤ (↑i : Int) + 1 ∧ (↑i : Int) + 1 ≤ 18446744073709551615)) (.stop (Hd.again (again' bT bG bM { i := i, a := a0, c := c, R := R, k := k, hr := hr }) [.top, .ptr 0 0, .ptr 1 0, .top, .ptr 2 0, .ptr 3 0, fT, .ptr 4 0, .top, .top, .top, .top, .top, .top, .top, .top, .top, .top, .top, .top, .top, .top, .top, .top, .top, .top, .top, .top, .top, .top, .top, .top, .top, .top, .top, .top, .top, .top, .top, .top, .top, .top, .top, .top, .top, .top, .top, .top, .top, .top, .top, .top, .top, .top, .top, .top, .top, .top, .top, .top, .top, .top, .top, .top, .top, .top, .sint .u64 c, .sint .u64 ((↑i : Int) + 1), .bool true, .ptr 4 11, .gsl 5 i, fT, .sint .u64 v, .sint .i64 v, .sint .i64 (v - 1), .slice 9 0 1 1 true, .gsl 10 (i + 1), .ptr 4 11, .sint .u64 ((↑i : Int) + 1), .top, .top, .top, .top, .top, .top, .top, .top, .top, .top, .top, .top, .top, .top]) [0, 1, 2, 3, 4, 5, 9, 10] ([bk 0 [.data 1 n (by8 y)], bk 1 lpZ, bk 2 [.sint .i64 a], bk 3 [.bool true], bk 4 [.top, .top, .top, .top, .top, .top, .top, .top, .top, .top, .top, .gsl 10 (i + 1)], (some Blk.dead, none), bk 9 [.sint .i64 (v - 1)], (some (Blk.seq 10 1 (i + 1) (glue i R fun (i : Nat) => List.take 1 (List.drop (i * 1) [.sint .i64 (v - 1)]))), some (1, i + 1, glue i R fun (i : Nat) => List.take 1 (List.drop (i * 1) [.sint .i64 (v - 1)])))])))))))))))))) (by kernel_rfl) ?_
            refine hl (bc fun h17 => by omega) ?_
            refine hl (bc fun h17 => by omega) ?_
            refine hl (bc fun h17 => by omega) ?_
            refine hl (bc fun h17 => by omega) ?_
            refine hl (bc fun h17 => by omega) ?_
            refine hl (bc fun h17 => by omega) ?_
            refine hl (bc fun h17 => by omega) ?_
            refine hl (bc fun h17 => by omega) ?_
            refine hl (bc fun h17 => by omega) ?_
            refine hl (bc fun h17 => by exact h17 ⟨by omega, fun j hj => by obtain rfl : j = 0 := (by omega); exact ⟨rfl, rfl⟩⟩) ?_
            refine hl (bc fun h17 => by omega) ?_
            refine hl (bc fun h17 => by omega) ?_
            refine hold_stop (fun hd hb => ?_)
            have hn := fun j hj => (nfs_glue (i := i) (R := R) (g := fun q => List.take 1 (List.drop (q * 1) [AV.sint .i64 (v - 1)])) hr rfl j hj).2
            refine ok_again hd [some 0, some 1, some 2, some 3, some 4, some 10] ⟨i + 1, _, c, _, ?_, hn⟩ ?_ (fits6b (look_get hb 0 rfl rfl).1 (look_get hb 1 rfl rfl).1 (look_get hb 2 rfl rfl).1 (look_get hb 3 rfl rfl).1 (look_get hb 4 rfl rfl).1 (look_get hb 7 rfl rfl).2 (by decide) (lpT_fit fit_n ⟨rfl, rfl⟩) fit_n (fit_g rfl) hn)
            · omega
            · show (c - ((i + 1 : Nat) : Int)).toNat < (c - (i : Int)).toNat
              omega
           refine hold_stop (fun hd hb => ?_)
           exact ok_leaf0 hd rfl (.inr ⟨fun h => by have := h.1; omega, rfl, rfl⟩)
          refine ok_sk (.stop [0, 2, 3]) (S := .stop (Hd.call 31 [.int .i64 8, .ptr 0 0, .ptr 2 0, .ptr 3 0]) [0, 2, 3] ([bk 0 [.data 1 n (by8 y)], bk 2 [.sint .i64 (0 : Int)], bk 3 [.bool true]])) (by kernel_rfl) ?_
          refine hold_stop (fun hd hb => ?_)
          refine tk_call hd (tb8 n y _ hn ?_) hb (by decide) (by decide) (by kernel_rfl) fit1_n ?_
          focus omega
          rintro x G ⟨a, ha, ha1, rfl, rfl⟩
          refine ok_sk (.stop [0, 2, 3]) (S := .stop (Hd.call 31 [.int .i64 8, .ptr 0 0, .ptr 2 0, .ptr 3 0]) [0, 2, 3] ([bk 0 [.data 1 n (by8 y)], bk 2 [.sint .i64 a], bk 3 [.bool true]])) (by kernel_rfl) ?_
          refine hold_stop (fun hd hb => ?_)
          refine tk_call hd (tb8 n y _ hn ?_) hb (by decide) (by decide) (by kernel_rfl) fit1_n ?_
          focus omega
          rintro x G ⟨a, ha, ha1, rfl, rfl⟩
          refine ok_sk (.stop [0, 2, 3]) (S := .stop (Hd.call 31 [.int .i64 1, .ptr 0 0, .ptr 2 0, .ptr 3 0]) [0, 2, 3] ([bk 0 [.data 1 n (by8 y)], bk 2 [.sint .i64 a], bk 3 [.bool true]])) (by kernel_rfl) ?_
          refine hold_stop (fun hd hb => ?_)
          refine tk_call hd (tb1 n y _ hn ?_) hb (by decide) (by decide) (by kernel_rfl) fit1_n ?_
          focus omega
          rintro x G ⟨a, vh11, ha, ha1, hv, hv1, rfl, rfl⟩
          refine ok_sk (.stop [0, 1, 2, 3, 4, 8]) (S := .stop (Hd.loop 43 [.data 1 n (by8 y), .ptr 0 0, .ptr 1 0, .int .i64 0, .ptr 2 0, .ptr 3 0, fT, .ptr 4 0, .tuple [], .ptr 4 8, fT, fT, .sint .u64 (n1 (sh y 0)), .sint .u8 (n1 (sh y 0) % 256), .ptr 4 0, .ptr 4 1, .ptr 4 9, .ptr 4 8, .slice 8 0 3 3 true, .int .i64 3, .int .i64 3, .bool false, .ptr 8 2, .ptr 4 8, .ptr 4 8, fT, .sint .u64 (n2 (sh y 5)), .sint .i64 (n2 (sh y 5)), m2 y 5, .ptr 4 8, .int .i64 3, fT, .sint .u64 (n4 (sh y 7)), .sint .i64 (n4 (sh y 7)), m4 y 7, .ptr 4 10, fT, .sint .u64 (n1 (sh y 11)), .sint .u8 (n1 (sh y 11) % 256), .ptr 4 2, .ptr 4 2, fT, q8 y 12, .ptr 4 2, .ptr 4 3, fT, .sint .u64 (n2 (sh y 20)), .sint .i64 (n2 (sh y 20)), m2 y 20, .ptr 4 2, .ptr 4 4, fT, .int .u64 0, .int .i64 0, .int .i64 (Int.negSucc 0), .ptr 4 2, .ptr 4 5, fT, AV.unkI IntKind.u64, .ptr 4 2, .ptr 4 6, fT, AV.unkI IntKind.u64, .ptr 4 2, .ptr 4 7, fT, .sint .u64 vh11, .int .u64 0, .tuple [], .tuple [], .tuple [], .tuple [], .tuple [], .tuple [], .tuple [], .tuple [], .tuple [], .tuple [], .tuple [], .tuple [], .tuple [], .tuple [], .tuple [], .tuple [], .tuple [], .tuple [], .tuple [], .tuple [], .tuple [], .tuple [], .tuple [], .tuple [], .tuple []]) [0, 1, 2, 3, 4, 8] ([bk 0 [.data 1 n (by8 y)], bk 1 lpZ, bk 2 [.sint .i64 a], bk 3 [.bool true], bk 4 [.sint .u8 (n1 (sh y 0) % 256), m2 y 1, .sint .u8 (n1 (sh y 11) % 256), q8 y 12, m2 y 20, .int .i64 (Int.negSucc 0), AV.unkI IntKind.u64, AV.unkI IntKind.u64, m2 y 5, m2 y 3, m4 y 7, .nilSlice], bk 8 [.ptr 4 1, .ptr 4 9, .ptr 4 8]])) (by kernel_rfl) ?_
          refine hold_stop (fun hd hb => ?_)
          refine ok_loop hd (X := BS n y) bT bG bM [some 0, some 1, some 2, some 3, some 4, none] ⟨0, _, _, fun _ => [], ?_, fun j hj => absurd hj (Nat.not_lt_zero j)⟩ (fits6n (look_get hb 0 rfl rfl).1 (look_get hb 1 rfl rfl).1 (look_get hb 2 rfl rfl).1 (look_get hb 3 rfl rfl).1 (look_get hb 4 rfl rfl).1 (by decide) (lpT_fit fit_n fit_i) fit_n (br_fit fit_nil rfl)) ?_
          focus omega
          rintro ⟨i, a0, c, R, k, hr⟩
          refine ok_sk (.both (.stop [0, 2, 3]) (.stop [])) (S := .fork (decide ((↑i : Int) < c)) (.stop (Hd.call 31 [.int .i64 1, .ptr 0 0, .ptr 2 0, .ptr 3 0]) [0, 2, 3] ([bk 0 [.data 1 n (by8 y)], bk 2 [.sint .i64 a0], bk 3 [.bool true]])) (.stop (Hd.leaf (.tuple [.agg lpZ, .int .i64 5])) [] ([]))) (by kernel_rfl) ?_
          refine hold_forkD (fun h13 => ?_) (fun h13 => ?_)
          ·
           refine hold_stop (fun hd hb => ?_)
           have hz := hr
           refine tk_call hd (tb1 n y _ hn ?_) hb (by decide) (by decide) (by kernel_rfl) fit1_n ?_
           focus omega
           rintro x G ⟨a, v, ha, ha1, hv, hv1, rfl, rfl⟩
           clear hz
           refine ok_sk (.l (.l (.l (.l (.l (.l (.l (.l (.l (.l (.l (.l (.stop [0, 1, 2, 3, 4, 5, 9, 10]))))))))))))) (S := .left (decide (i = i)) (.left (decide ((-9223372036854775808 : Int) ≤ v ∧ v ≤ 9223372036854775807)) (.left (decide ((-9223372036854775808 : Int) ≤ v - 1 ∧ v - 1 ≤ 9223372036854775807)) (.left (decide (v - 1 = v - 1)) (.left (decide ((-9223372036854775808 : Int) ≤ v - 1 ∧ v - 1 ≤ 9223372036854775807)) (.left (decide (v - 1 = v - 1)) (.left (decide ((-9223372036854775808 : Int) ≤ v ∧ v ≤ 9223372036854775807)) (.left (decide (v = v)) (.left (decide (i = i)) (.left (@decide (1 < 65536 ∧ RowsOK 1 1 fun (i : Nat) => List.take 1 (List.drop (i * 1) [.sint .i64 (v - 1)])) pd) (.left (decide (i ≤ i ∧ i < 65536)) (.left (decide (0 ≤ (↑i : Int) + 1 ∧ (↑i : Int) + 1 ≤ 18446744073709551615)) (.stop (Hd.again (again' bT bG bM { i := i, a := a0, c := c, R := R, k := k, hr := hr }) [.top, .ptr 0 0, .ptr 1 0, .top, .ptr 2 0, .ptr 3 0, fT, .ptr 4 0, .top, .top, .top, .top, .top, .top, .top, .top, .top, .top, .top, .top, .top, .top, .top, .top, .top, .top, .top, .top, .top, .top, .top, .top, .top, .top, .top, .top, .top, .top, .top, .top, .top, .top, .top, .top, .top, .top, .top, .top, .top, .top, .top, .top, .top, .top, .top, .top, .top, .top, .top, .top, .top, .top, .top, .top, .top, .top, .sint .u64 c, .sint .u64 ((↑i : Int) + 1), .bool true, .ptr 4 11, .gsl 5 i, fT, .sint .u64 v, .sint .i64 v, .sint .i64 (v - 1), .slice 9 0 1 1 true, .gsl 10 (i + 1), .ptr 4 11, .sint .u64 ((↑i : Int) + 1), .top, .top, .top, .top, .top, .top, .top, .top, .top, .top, .top, .top, .top, .top]) [0, 1, 2, 3, 4, 5, 9, 10] ([bk 0 [.data 1 n (by8 y)], bk 1 lpZ, bk 2 [.sint .i64 a], bk 3 [.bool true], bk 4 [.top, .top, .top, .top, .top, .top, .top, .top, .top, .top, .top, .gsl 10 (i + 1)], (some Blk.dead, none), bk 9 [.sint .i64 (v - 1)], (some (Blk.seq 10 1 (i + 1) (glue i R fun (i : Nat) => List.take 1 (List.drop (i * 1) [.sint .i64 (v - 1)]))), some (1, i + 1, glue i R fun (i : Nat) => List.take 1 (List.drop (i * 1) [.sint .i64 (v - 1)])))])))))))))))))) (by kernel_rfl) ?_
           refine hl (bc fun h15 => by omega) ?_
           refine hl (bc fun h15 => by omega) ?_
           refine hl (bc fun h15 => by omega) ?_
           refine hl (bc fun h15 => by omega) ?_
           refine hl (bc fun h15 => by omega) ?_
           refine hl (bc fun h15 => by omega) ?_
           refine hl (bc fun h15 => by omega) ?_
           refine hl (bc fun h15 => by omega) ?_
           refine hl (bc fun h15 => by omega) ?_
           refine hl (bc fun h15 => by exact h15 ⟨by omega, fun j hj => by obtain rfl : j = 0 := (by omega); exact ⟨rfl, rfl⟩⟩) ?_
           refine hl (bc fun h15 => by omega) ?_
           refine hl (bc fun h15 => by omega) ?_
           refine hold_stop (fun hd hb => ?_)
           have hn := fun j hj => (nfs_glue (i := i) (R := R) (g := fun q => List.take 1 (List.drop (q * 1) [AV.sint .i64 (v - 1)])) hr rfl j hj).2
           refine ok_again hd [some 0, some 1, some 2, some 3, some 4, some 10] ⟨i + 1, _, c, _, ?_, hn⟩ ?_ (fits6b (look_get hb 0 rfl rfl).1 (look_get hb 1 rfl rfl).1 (look_get hb 2 rfl rfl).1 (look_get hb 3 rfl rfl).1 (look_get hb 4 rfl rfl).1 (look_get hb 7 rfl rfl).2 (by decide) (lpT_fit fit_n ⟨rfl, rfl⟩) fit_n (fit_g rfl) hn)
           · omega
           · show (c - ((i + 1 : Nat) : Int)).toNat < (c - (i : Int)).toNat
             omega
          refine hold_stop (fun hd hb => ?_)
          exact ok_leaf0 hd rfl (.inr ⟨fun h => by have := h.1; omega, rfl, rfl⟩)
         refine ok_sk (.stop [0, 2, 3]) (S := .stop (Hd.call 31 [.int .i64 8, .ptr 0 0, .ptr 2 0, .ptr 3 0]) [0, 2, 3] ([bk 0 [.data 1 n (by8 y)], bk 2 [.sint .i64 (0 : Int)], bk 3 [.bool true]])) (by kernel_rfl) ?_
         refine hold_stop (fun hd hb => ?_)
         refine tk_call hd (tb8 n y _ hn ?_) hb (by decide) (by decide) (by kernel_rfl) fit1_n ?_
         focus omega
         rintro x G ⟨a, ha, ha1, rfl, rfl⟩
         refine ok_sk (.stop [0, 2, 3]) (S := .stop (Hd.call 31 [.int .i64 8, .ptr 0 0, .ptr 2 0, .ptr 3 0]) [0, 2, 3] ([bk 0 [.data 1 n (by8 y)], bk 2 [.sint .i64 a], bk 3 [.bool true]])) (by kernel_rfl) ?_
         refine hold_stop (fun hd hb => ?_)
         refine tk_call hd (tb8 n y _ hn ?_) hb (by decide) (by decide) (by kernel_rfl) fit1_n ?_
         focus omega
         rintro x G ⟨a, ha, ha1, rfl, rfl⟩
         refine ok_sk (.stop [0, 2, 3]) (S := .stop (Hd.call 31 [.int .i64 8, .ptr 0 0, .ptr 2 0, .ptr 3 0]) [0, 2, 3] ([bk 0 [.data 1 n (by8 y)], bk 2 [.sint .i64 a], bk 3 [.bool true]])) (by kernel_rfl) ?_
         refine hold_stop (fun hd hb => ?_)
         refine tk_call hd (tb8 n y _ hn ?_) hb (by decide) (by decide) (by kernel_rfl) fit1_n ?_
         focus omega
         rintro x G ⟨a, ha, ha1, rfl, rfl⟩
         refine ok_sk (.stop [0, 2, 3]) (S := .stop (Hd.call 31 [.int .i64 1, .ptr 0 0, .ptr 2 0, .ptr 3 0]) [0, 2, 3] ([bk 0 [.data 1 n (by8 y)], bk 2 [.sint .i64 a], bk 3 [.bool true]])) (by kernel_rfl) ?_
         refine hold_stop (fun hd hb => ?_)
         refine tk_call hd (tb1 n y _ hn ?_) hb (by decide) (by decide) (by kernel_rfl) fit1_n ?_
         focus omega
         rintro x G ⟨a, vh11, ha, ha1, hv, hv1, rfl, rfl⟩
         refine ok_sk (.stop [0, 1, 2, 3, 4, 8]) (S := .stop (Hd.loop 43 [.data 1 n (by8 y), .ptr 0 0, .ptr 1 0, .int .i64 0, .ptr 2 0, .ptr 3 0, fT, .ptr 4 0, .tuple [], .ptr 4 8, fT, fT, .sint .u64 (n1 (sh y 0)), .sint .u8 (n1 (sh y 0) % 256), .ptr 4 0, .ptr 4 1, .ptr 4 9, .ptr 4 8, .slice 8 0 3 3 true, .int .i64 3, .int .i64 3, .bool false, .ptr 8 2, .ptr 4 8, .ptr 4 8, fT, .sint .u64 (n2 (sh y 5)), .sint .i64 (n2 (sh y 5)), m2 y 5, .ptr 4 8, .int .i64 3, fT, .sint .u64 (n4 (sh y 7)), .sint .i64 (n4 (sh y 7)), m4 y 7, .ptr 4 10, fT, .sint .u64 (n1 (sh y 11)), .sint .u8 (n1 (sh y 11) % 256), .ptr 4 2, .ptr 4 2, fT, q8 y 12, .ptr 4 2, .ptr 4 3, fT, .int .u64 0, .int .i64 0, .int .i64 (Int.negSucc 0), .ptr 4 2, .ptr 4 4, fT, AV.unkI IntKind.u64, AV.unkI IntKind.i64, AV.unkI IntKind.i64, .ptr 4 2, .ptr 4 5, fT, AV.unkI IntKind.u64, .ptr 4 2, .ptr 4 6, fT, AV.unkI IntKind.u64, .ptr 4 2, .ptr 4 7, fT, .sint .u64 vh11, .int .u64 0, .tuple [], .tuple [], .tuple [], .tuple [], .tuple [], .tuple [], .tuple [], .tuple [], .tuple [], .tuple [], .tuple [], .tuple [], .tuple [], .tuple [], .tuple [], .tuple [], .tuple [], .tuple [], .tuple [], .tuple [], .tuple [], .tuple [], .tuple [], .tuple [], .tuple []]) [0, 1, 2, 3, 4, 8] ([bk 0 [.data 1 n (by8 y)], bk 1 lpZ, bk 2 [.sint .i64 a], bk 3 [.bool true], bk 4 [.sint .u8 (n1 (sh y 0) % 256), m2 y 1, .sint .u8 (n1 (sh y 11) % 256), q8 y 12, .int .i64 (Int.negSucc 0), AV.unkI IntKind.i64, AV.unkI IntKind.u64, AV.unkI IntKind.u64, m2 y 5, m2 y 3, m4 y 7, .nilSlice], bk 8 [.ptr 4 1, .ptr 4 9, .ptr 4 8]])) (by kernel_rfl) ?_
         refine hold_stop (fun hd hb => ?_)
         refine ok_loop hd (X := BS n y) bT bG bM [some 0, some 1, some 2, some 3, some 4, none] ⟨0, _, _, fun _ => [], ?_, fun j hj => absurd hj (Nat.not_lt_zero j)⟩ (fits6n (look_get hb 0 rfl rfl).1 (look_get hb 1 rfl rfl).1 (look_get hb 2 rfl rfl).1 (look_get hb 3 rfl rfl).1 (look_get hb 4 rfl rfl).1 (by decide) (lpT_fit fit_n fit_i) fit_n (br_fit fit_nil rfl)) ?_
         focus omega
         rintro ⟨i, a0, c, R, k, hr⟩
         refine ok_sk (.both (.stop [0, 2, 3]) (.stop [])) (S := .fork (decide ((↑i : Int) < c)) (.stop (Hd.call 31 [.int .i64 1, .ptr 0 0, .ptr 2 0, .ptr 3 0]) [0, 2, 3] ([bk 0 [.data 1 n (by8 y)], bk 2 [.sint .i64 a0], bk 3 [.bool true]])) (.stop (Hd.leaf (.tuple [.agg lpZ, .int .i64 5])) [] ([]))) (by kernel_rfl) ?_
         refine hold_forkD (fun h13 => ?_) (fun h13 => ?_)
         ·
          refine hold_stop (fun hd hb => ?_)
          have hz := hr
          refine tk_call hd (tb1 n y _ hn ?_) hb (by decide) (by decide) (by kernel_rfl) fit1_n ?_
          focus omega
          rintro x G ⟨a, v, ha, ha1, hv, hv1, rfl, rfl⟩
          clear hz
          refine ok_sk (.l (.l (.l (.l (.l (.l (.l (.l (.l (.l (.l (.l (.stop [0, 1, 2, 3, 4, 5, 9, 10]))))))))))))) (S := .left (decide (i = i)) (.left (decide ((-9223372036854775808 : Int) ≤ v ∧ v ≤ 9223372036854775807)) (.left (decide ((-9223372036854775808 : Int) ≤ v - 1 ∧ v - 1 ≤ 9223372036854775807)) (.left (decide (v - 1 = v - 1)) (.left (decide ((-9223372036854775808 : Int) ≤ v - 1 ∧ v - 1 ≤ 9223372036854775807)) (.left (decide (v - 1 = v - 1)) (.left (decide ((-9223372036854775808 : Int) ≤ v ∧ v ≤ 9223372036854775807)) (.left (decide (v = v)) (.left (decide (i = i)) (.left (@decide (1 < 65536 ∧ RowsOK 1 1 fun (i : Nat) => List.take 1 (List.drop (i * 1) [.sint .i64 (v - 1)])) pd) (.left (decide (i ≤ i ∧ i < 65536)) (.left (decide (0 ≤ (↑i : Int) + 1 ∧ (↑i : Int) + 1 ≤ 18446744073709551615)) (.stop (Hd.again (again' bT bG bM { i := i, a := a0, c := c, R := R, k := k, hr := hr }) [.top, .ptr 0 0, .ptr 1 0, .top, .ptr 2 0, .ptr 3 0, fT, .ptr 4 0, .top, .top, .top, .top, .top, .top, .top, .top, .top, .top, .top, .top, .top, .top, .top, .top, .top, .top, .top, .top, .top, .top, .top, .top, .top, .top, .top, .top, .top, .top, .top, .top, .top, .top, .top, .top, .top, .top, .top, .top, .top, .top, .top, .top, .top, .top, .top, .top, .top, .top, .top, .top, .top, .top, .top, .top, .top, .top, .sint .u64 c, .sint .u64 ((↑i : Int) + 1), .bool true, .ptr 4 11, .gsl 5 i, fT, .sint .u64 v, .sint .i64 v, .sint .i64 (v - 1), .slice 9 0 1 1 true, .gsl 10 (i + 1), .ptr 4 11, .sint .u64 ((↑i : Int) + 1), .top, .top, .top, .top, .top, .top, .top, .top, .top, .top, .top, .top, .top, .top]) [0, 1, 2, 3, 4, 5, 9, 10] ([bk 0 [.data 1 n (by8 y)], bk 1 lpZ, bk 2 [.sint .i64 a], bk 3 [.bool true], bk 4 [.top, .top, .top, .top, .top, .top, .top, .top, .top, .top, .top, .gsl 10 (i + 1)], (some Blk.dead, none), bk 9 [.sint .i64 (v - 1)], (some (Blk.seq 10 1 (i + 1) (glue i R fun (i : Nat) => List.take 1 (List.drop (i * 1) [.sint .i64 (v - 1)]))), some (1, i + 1, glue i R fun (i : Nat) => List.take 1 (List.drop (i * 1) [.sint .i64 (v - 1)])))])))))))))))))) (by kernel_rfl) ?_
          refine hl (bc fun h15 => by omega) ?_
          refine hl (bc fun h15 => by omega) ?_
          refine hl (bc fun h15 => by omega) ?_
          refine hl (bc fun h15 => by omega) ?_
          refine hl (bc fun h15 => by omega) ?_
          refine hl (bc fun h15 => by omega) ?_
          refine hl (bc fun h15 => by omega) ?_
          refine hl (bc fun h15 => by omega) ?_
          refine hl (bc fun h15 => by omega) ?_
          refine hl (bc fun h15 => by exact h15 ⟨by omega, fun j hj => by obtain rfl : j = 0 := (by omega); exact ⟨rfl, rfl⟩⟩) ?_
          refine hl (bc fun h15 => by omega) ?_
          refine hl (bc fun h15 => by omega) ?_
          refine hold_stop (fun hd hb => ?_)
          have hn := fun j hj => (nfs_glue (i := i) (R := R) (g := fun q => List.take 1 (List.drop (q * 1) [AV.sint .i64 (v - 1)])) hr rfl j hj).2
          refine ok_again hd [some 0, some 1, some 2, some 3, some 4, some 10] ⟨i + 1, _, c, _, ?_, hn⟩ ?_ (fits6b (look_get hb 0 rfl rfl).1 (look_get hb 1 rfl rfl).1 (look_get hb 2 rfl rfl).1 (look_get hb 3 rfl rfl).1 (look_get hb 4 rfl rfl).1 (look_get hb 7 rfl rfl).2 (by decide) (lpT_fit fit_n ⟨rfl, rfl⟩) fit_n (fit_g rfl) hn)
          · omega
          · show (c - ((i + 1 : Nat) : Int)).toNat < (c - (i : Int)).toNat
            omega
         refine hold_stop (fun hd hb => ?_)
         exact ok_leaf0 hd rfl (.inr ⟨fun h => by have := h.1; omega, rfl, rfl⟩)
        refine ok_sk (.stop [0, 2, 3]) (S := .stop (Hd.call 31 [.int .i64 2, .ptr 0 0, .ptr 2 0, .ptr 3 0]) [0, 2, 3] ([bk 0 [.data 1 n (by8 y)], bk 2 [.sint .i64 (0 : Int)], bk 3 [.bool true]])) (by kernel_rfl) ?_
        refine hold_stop (fun hd hb => ?_)
        refine tk_call hd (tb2 n y _ hn ?_) hb (by decide) (by decide) (by kernel_rfl) fit1_n ?_
        focus omega
        rintro x G ⟨a, vh7, ha, ha1, hv, hv1, rfl, rfl⟩
        refine ok_sk (.l (.l (.stop [0, 2, 3]))) (S := .left (decide ((-9223372036854775808 : Int) ≤ vh7 ∧ vh7 ≤ 9223372036854775807)) (.left (decide ((-9223372036854775808 : Int) ≤ vh7 - 1 ∧ vh7 - 1 ≤ 9223372036854775807)) (.stop (Hd.call 31 [.int .i64 8, .ptr 0 0, .ptr 2 0, .ptr 3 0]) [0, 2, 3] ([bk 0 [.data 1 n (by8 y)], bk 2 [.sint .i64 a], bk 3 [.bool true]])))) (by kernel_rfl) ?_
        refine hl (bc fun h8 => by omega) ?_
        refine hl (bc fun h8 => by omega) ?_
        refine hold_stop (fun hd hb => ?_)
        refine tk_call hd (tb8 n y _ hn ?_) hb (by decide) (by decide) (by kernel_rfl) fit1_n ?_
        focus omega
        rintro x G ⟨a, ha, ha1, rfl, rfl⟩
        refine ok_sk (.stop [0, 2, 3]) (S := .stop (Hd.call 31 [.int .i64 8, .ptr 0 0, .ptr 2 0, .ptr 3 0]) [0, 2, 3] ([bk 0 [.data 1 n (by8 y)], bk 2 [.sint .i64 a], bk 3 [.bool true]])) (by kernel_rfl) ?_
        refine hold_stop (fun hd hb => ?_)
        refine tk_call hd (tb8 n y _ hn ?_) hb (by decide) (by decide) (by kernel_rfl) fit1_n ?_
        focus omega
        rintro x G ⟨a, ha, ha1, rfl, rfl⟩
        refine ok_sk (.stop [0, 2, 3]) (S := .stop (Hd.call 31 [.int .i64 8, .ptr 0 0, .ptr 2 0, .ptr 3 0]) [0, 2, 3] ([bk 0 [.data 1 n (by8 y)], bk 2 [.sint .i64 a], bk 3 [.bool true]])) (by kernel_rfl) ?_
        refine hold_stop (fun hd hb => ?_)
        refine tk_call hd (tb8 n y _ hn ?_) hb (by decide) (by decide) (by kernel_rfl) fit1_n ?_
        focus omega
        rintro x G ⟨a, ha, ha1, rfl, rfl⟩
        refine ok_sk (.stop [0, 2, 3]) (S := .stop (Hd.call 31 [.int .i64 1, .ptr 0 0, .ptr 2 0, .ptr 3 0]) [0, 2, 3] ([bk 0 [.data 1 n (by8 y)], bk 2 [.sint .i64 a], bk 3 [.bool true]])) (by kernel_rfl) ?_
        refine hold_stop (fun hd hb => ?_)
        refine tk_call hd (tb1 n y _ hn ?_) hb (by decide) (by decide) (by kernel_rfl) fit1_n ?_
        focus omega
        rintro x G ⟨a, vh11, ha, ha1, hv, hv1, rfl, rfl⟩
        refine ok_sk (.stop [0, 1, 2, 3, 4, 8]) (S := .stop (Hd.loop 43 [.data 1 n (by8 y), .ptr 0 0, .ptr 1 0, .int .i64 0, .ptr 2 0, .ptr 3 0, fT, .ptr 4 0, .tuple [], .ptr 4 8, fT, fT, .sint .u64 (n1 (sh y 0)), .sint .u8 (n1 (sh y 0) % 256), .ptr 4 0, .ptr 4 1, .ptr 4 9, .ptr 4 8, .slice 8 0 3 3 true, .int .i64 3, .int .i64 3, .bool false, .ptr 8 2, .ptr 4 8, .ptr 4 8, fT, .sint .u64 (n2 (sh y 5)), .sint .i64 (n2 (sh y 5)), m2 y 5, .ptr 4 8, .int .i64 3, fT, .sint .u64 (n4 (sh y 7)), .sint .i64 (n4 (sh y 7)), m4 y 7, .ptr 4 10, fT, .sint .u64 (n1 (sh y 11)), .sint .u8 (n1 (sh y 11) % 256), .ptr 4 2, .ptr 4 2, fT, .int .u64 0, .ptr 4 2, .ptr 4 3, fT, .sint .u64 vh7, .sint .i64 vh7, .sint .i64 (vh7 - 1), .ptr 4 2, .ptr 4 4, fT, AV.unkI IntKind.u64, AV.unkI IntKind.i64, AV.unkI IntKind.i64, .ptr 4 2, .ptr 4 5, fT, AV.unkI IntKind.u64, .ptr 4 2, .ptr 4 6, fT, AV.unkI IntKind.u64, .ptr 4 2, .ptr 4 7, fT, .sint .u64 vh11, .int .u64 0, .tuple [], .tuple [], .tuple [], .tuple [], .tuple [], .tuple [], .tuple [], .tuple [], .tuple [], .tuple [], .tuple [], .tuple [], .tuple [], .tuple [], .tuple [], .tuple [], .tuple [], .tuple [], .tuple [], .tuple [], .tuple [], .tuple [], .tuple [], .tuple [], .tuple []]) [0, 1, 2, 3, 4, 8] ([bk 0 [.data 1 n (by8 y)], bk 1 lpZ, bk 2 [.sint .i64 a], bk 3 [.bool true], bk 4 [.sint .u8 (n1 (sh y 0) % 256), m2 y 1, .sint .u8 (n1 (sh y 11) % 256), .int .u64 0, .sint .i64 (vh7 - 1), AV.unkI IntKind.i64, AV.unkI IntKind.u64, AV.unkI IntKind.u64, m2 y 5, m2 y 3, m4 y 7, .nilSlice], bk 8 [.ptr 4 1, .ptr 4 9, .ptr 4 8]])) (by kernel_rfl) ?_
        refine hold_stop (fun hd hb => ?_)
        refine ok_loop hd (X := BS n y) bT bG bM [some 0, some 1, some 2, some 3, some 4, none] ⟨0, _, _, fun _ => [], ?_, fun j hj => absurd hj (Nat.not_lt_zero j)⟩ (fits6n (look_get hb 0 rfl rfl).1 (look_get hb 1 rfl rfl).1 (look_get hb 2 rfl rfl).1 (look_get hb 3 rfl rfl).1 (look_get hb 4 rfl rfl).1 (by decide) (lpT_fit fit_n fit_i) fit_n (br_fit fit_nil rfl)) ?_
        focus omega
        rintro ⟨i, a0, c, R, k, hr⟩
        refine ok_sk (.both (.stop [0, 2, 3]) (.stop [])) (S := .fork (decide ((↑i : Int) < c)) (.stop (Hd.call 31 [.int .i64 1, .ptr 0 0, .ptr 2 0, .ptr 3 0]) [0, 2, 3] ([bk 0 [.data 1 n (by8 y)], bk 2 [.sint .i64 a0], bk 3 [.bool true]])) (.stop (Hd.leaf (.tuple [.agg lpZ, .int .i64 5])) [] ([]))) (by kernel_rfl) ?_
        refine hold_forkD (fun h13 => ?_) (fun h13 => ?_)
        ·
         refine hold_stop (fun hd hb => ?_)
         have hz := hr
         refine tk_call hd (tb1 n y _ hn ?_) hb (by decide) (by decide) (by kernel_rfl) fit1_n ?_
         focus omega
         rintro x G ⟨a, v, ha, ha1, hv, hv1, rfl, rfl⟩
         clear hz
         refine ok_sk (.l (.l (.l (.l (.l (.l (.l (.l (.l (.l (.l (.l (.stop [0, 1, 2, 3, 4, 5, 9, 10]))))))))))))) (S := .left (decide (i = i)) (.left (decide ((-9223372036854775808 : Int) ≤ v ∧ v ≤ 9223372036854775807)) (.left (decide ((-9223372036854775808 : Int) ≤ v - 1 ∧ v - 1 ≤ 9223372036854775807)) (.left (decide (v - 1 = v - 1)) (.left (decide ((-9223372036854775808 : Int) ≤ v - 1 ∧ v - 1 ≤ 9223372036854775807)) (.left (decide (v - 1 = v - 1)) (.left (decide ((-9223372036854775808 : Int) ≤ v ∧ v ≤ 9223372036854775807)) (.left (decide (v = v)) (.left (decide (i = i)) (.left (@decide (1 < 65536 ∧ RowsOK 1 1 fun (i : Nat) => List.take 1 (List.drop (i * 1) [.sint .i64 (v - 1)])) pd) (.left (decide (i ≤ i ∧ i < 65536)) (.left (decide (0 ≤ (↑i : Int) + 1 ∧ (↑i : Int) + 1 ≤ 18446744073709551615)) (.stop (Hd.again (again' bT bG bM { i := i, a := a0, c := c, R := R, k := k, hr := hr }) [.top, .ptr 0 0, .ptr 1 0, .top, .ptr 2 0, .ptr 3 0, fT, .ptr 4 0, .top, .top, .top, .top, .top, .top, .top, .top, .top, .top, .top, .top, .top, .top, .top, .top, .top, .top, .top, .top, .top, .top, .top, .top, .top, .top, .top, .top, .top, .top, .top, .top, .top, .top, .top, .top, .top, .top, .top, .top, .top, .top, .top, .top, .top, .top, .top, .top, .top, .top, .top, .top, .top, .top, .top, .top, .top, .top, .sint .u64 c, .sint .u64 ((↑i : Int) + 1), .bool true, .ptr 4 11, .gsl 5 i, fT, .sint .u64 v, .sint .i64 v, .sint .i64 (v - 1), .slice 9 0 1 1 true, .gsl 10 (i + 1), .ptr 4 11, .sint .u64 ((↑i : Int) + 1), .top, .top, .top, .top, .top, .top, .top, .top, .top, .top, .top, .top, .top, .top]) [0, 1, 2, 3, 4, 5, 9, 10] ([bk 0 [.data 1 n (by8 y)], bk 1 lpZ, bk 2 [.sint .i64 a], bk 3 [.bool true], bk 4 [.top, .top, .top, .top, .top, .top, .top, .top, .top, .top, .top, .gsl 10 (i + 1)], (some Blk.dead, none), bk 9 [.sint .i64 (v - 1)], (some (Blk.seq 10 1 (i + 1) (glue i R fun (i : Nat) => List.take 1 (List.drop (i * 1) [.sint .i64 (v - 1)]))), some (1, i + 1, glue i R fun (i : Nat) => List.take 1 (List.drop (i * 1) [.sint .i64 (v - 1)])))])))))))))))))) (by kernel_rfl) ?_
         refine hl (bc fun h15 => by omega) ?_
         refine hl (bc fun h15 => by omega) ?_
         refine hl (bc fun h15 => by omega) ?_
         refine hl (bc fun h15 => by omega) ?_
         refine hl (bc fun h15 => by omega) ?_
         refine hl (bc fun h15 => by omega) ?_
         refine hl (bc fun h15 => by omega) ?_
         refine hl (bc fun h15 => by omega) ?_
         refine hl (bc fun h15 => by omega) ?_
         refine hl (bc fun h15 => by exact h15 ⟨by omega, fun j hj => by obtain rfl : j = 0 := (by omega); exact ⟨rfl, rfl⟩⟩) ?_
         refine hl (bc fun h15 => by omega) ?_
         refine hl (bc fun h15 => by omega) ?_
         refine hold_stop (fun hd hb => ?_)
         have hn := fun j hj => (nfs_glue (i := i) (R := R) (g := fun q => List.take 1 (List.drop (q * 1) [AV.sint .i64 (v - 1)])) hr rfl j hj).2
         refine ok_again hd [some 0, some 1, some 2, some 3, some 4, some 10] ⟨i + 1, _, c, _, ?_, hn⟩ ?_ (fits6b (look_get hb 0 rfl rfl).1 (look_get hb 1 rfl rfl).1 (look_get hb 2 rfl rfl).1 (look_get hb 3 rfl rfl).1 (look_get hb 4 rfl rfl).1 (look_get hb 7 rfl rfl).2 (by decide) (lpT_fit fit_n ⟨rfl, rfl⟩) fit_n (fit_g rfl) hn)
         · omega
         · show (c - ((i + 1 : Nat) : Int)).toNat < (c - (i : Int)).toNat
           omega
        refine hold_stop (fun hd hb => ?_)
        exact ok_leaf0 hd rfl (.inr ⟨fun h => by have := h.1; omega, rfl, rfl⟩)
       refine ok_sk (.stop [0, 2, 3]) (S := .stop (Hd.call 31 [.int .i64 8, .ptr 0 0, .ptr 2 0, .ptr 3 0]) [0, 2, 3] ([bk 0 [.data 1 n (by8 y)], bk 2 [.sint .i64 (0 : Int)], bk 3 [.bool true]])) (by kernel_rfl) ?_
       refine hold_stop (fun hd hb => ?_)
       refine tk_call hd (tb8 n y _ hn ?_) hb (by decide) (by decide) (by kernel_rfl) fit1_n ?_
       focus omega
       rintro x G ⟨a, ha, ha1, rfl, rfl⟩
       refine ok_sk (.stop [0, 2, 3]) (S := .stop (Hd.call 31 [.int .i64 2, .ptr 0 0, .ptr 2 0, .ptr 3 0]) [0, 2, 3] ([bk 0 [.data 1 n (by8 y)], bk 2 [.sint .i64 a], bk 3 [.bool true]])) (by kernel_rfl) ?_
       refine hold_stop (fun hd hb => ?_)
       refine tk_call hd (tb2 n y _ hn ?_) hb (by decide) (by decide) (by kernel_rfl) fit1_n ?_
       focus omega
       rintro x G ⟨a, vh7, ha, ha1, hv, hv1, rfl, rfl⟩
       refine ok_sk (.l (.l (.stop [0, 2, 3]))) (S := .left (decide ((-9223372036854775808 : Int) ≤ vh7 ∧ vh7 ≤ 9223372036854775807)) (.left (decide ((-9223372036854775808 : Int) ≤ vh7 - 1 ∧ vh7 - 1 ≤ 9223372036854775807)) (.stop (Hd.call 31 [.int .i64 8, .ptr 0 0, .ptr 2 0, .ptr 3 0]) [0, 2, 3] ([bk 0 [.data 1 n (by8 y)], bk 2 [.sint .i64 a], bk 3 [.bool true]])))) (by kernel_rfl) ?_
       refine hl (bc fun h8 => by omega) ?_
       refine hl (bc fun h8 => by omega) ?_
       refine hold_stop (fun hd hb => ?_)
       refine tk_call hd (tb8 n y _ hn ?_) hb (by decide) (by decide) (by kernel_rfl) fit1_n ?_
       focus omega
       rintro x G ⟨a, ha, ha1, rfl, rfl⟩
       refine ok_sk (.stop [0, 2, 3]) (S := .stop (Hd.call 31 [.int .i64 8, .ptr 0 0, .ptr 2 0, .ptr 3 0]) [0, 2, 3] ([bk 0 [.data 1 n (by8 y)], bk 2 [.sint .i64 a], bk 3 [.bool true]])) (by kernel_rfl) ?_
       refine hold_stop (fun hd hb => ?_)
       refine tk_call hd (tb8 n y _ hn ?_) hb (by decide) (by decide) (by kernel_rfl) fit1_n ?_
       focus omega
       rintro x G ⟨a, ha, ha1, rfl, rfl⟩
       refine ok_sk (.stop [0, 2, 3]) (S := .stop (Hd.call 31 [.int .i64 8, .ptr 0 0, .ptr 2 0, .ptr 3 0]) [0, 2, 3] ([bk 0 [.data 1 n (by8 y)], bk 2 [.sint .i64 a], bk 3 [.bool true]])) (by kernel_rfl) ?_
       refine hold_stop (fun hd hb => ?_)
       refine tk_call hd (tb8 n y _ hn ?_) hb (by decide) (by decide) (by kernel_rfl) fit1_n ?_
       focus omega
       rintro x G ⟨a, ha, ha1, rfl, rfl⟩
       refine ok_sk (.stop [0, 2, 3]) (S := .stop (Hd.call 31 [.int .i64 1, .ptr 0 0, .ptr 2 0, .ptr 3 0]) [0, 2, 3] ([bk 0 [.data 1 n (by8 y)], bk 2 [.sint .i64 a], bk 3 [.bool true]])) (by kernel_rfl) ?_
       refine hold_stop (fun hd hb => ?_)
       refine tk_call hd (tb1 n y _ hn ?_) hb (by decide) (by decide) (by kernel_rfl) fit1_n ?_
       focus omega
       rintro x G ⟨a, vh11, ha, ha1, hv, hv1, rfl, rfl⟩
       refine ok_sk (.stop [0, 1, 2, 3, 4, 8]) (S := .stop (Hd.loop 43 [.data 1 n (by8 y), .ptr 0 0, .ptr 1 0, .int .i64 0, .ptr 2 0, .ptr 3 0, fT, .ptr 4 0, .tuple [], .ptr 4 8, fT, fT, .sint .u64 (n1 (sh y 0)), .sint .u8 (n1 (sh y 0) % 256), .ptr 4 0, .ptr 4 1, .ptr 4 9, .ptr 4 8, .slice 8 0 3 3 true, .int .i64 3, .int .i64 3, .bool false, .ptr 8 2, .ptr 4 8, .ptr 4 8, fT, .sint .u64 (n2 (sh y 5)), .sint .i64 (n2 (sh y 5)), m2 y 5, .ptr 4 8, .int .i64 3, fT, .sint .u64 (n4 (sh y 7)), .sint .i64 (n4 (sh y 7)), m4 y 7, .ptr 4 10, fT, .int .u64 0, .int .u8 0, .ptr 4 2, .ptr 4 2, fT, AV.unkI IntKind.u64, .ptr 4 2, .ptr 4 3, fT, .sint .u64 vh7, .sint .i64 vh7, .sint .i64 (vh7 - 1), .ptr 4 2, .ptr 4 4, fT, AV.unkI IntKind.u64, AV.unkI IntKind.i64, AV.unkI IntKind.i64, .ptr 4 2, .ptr 4 5, fT, AV.unkI IntKind.u64, .ptr 4 2, .ptr 4 6, fT, AV.unkI IntKind.u64, .ptr 4 2, .ptr 4 7, fT, .sint .u64 vh11, .int .u64 0, .tuple [], .tuple [], .tuple [], .tuple [], .tuple [], .tuple [], .tuple [], .tuple [], .tuple [], .tuple [], .tuple [], .tuple [], .tuple [], .tuple [], .tuple [], .tuple [], .tuple [], .tuple [], .tuple [], .tuple [], .tuple [], .tuple [], .tuple [], .tuple [], .tuple []]) [0, 1, 2, 3, 4, 8] ([bk 0 [.data 1 n (by8 y)], bk 1 lpZ, bk 2 [.sint .i64 a], bk 3 [.bool true], bk 4 [.sint .u8 (n1 (sh y 0) % 256), m2 y 1, .int .u8 0, AV.unkI IntKind.u64, .sint .i64 (vh7 - 1), AV.unkI IntKind.i64, AV.unkI IntKind.u64, AV.unkI IntKind.u64, m2 y 5, m2 y 3, m4 y 7, .nilSlice], bk 8 [.ptr 4 1, .ptr 4 9, .ptr 4 8]])) (by kernel_rfl) ?_
       refine hold_stop (fun hd hb => ?_)
       refine ok_loop hd (X := BS n y) bT bG bM [some 0, some 1, some 2, some 3, some 4, none] ⟨0, _, _, fun _ => [], ?_, fun j hj => absurd hj (Nat.not_lt_zero j)⟩ (fits6n (look_get hb 0 rfl rfl).1 (look_get hb 1 rfl rfl).1 (look_get hb 2 rfl rfl).1 (look_get hb 3 rfl rfl).1 (look_get hb 4 rfl rfl).1 (by decide) (lpT_fit fit_n fit_i) fit_n (br_fit fit_nil rfl)) ?_
       focus omega
       rintro ⟨i, a0, c, R, k, hr⟩
       refine ok_sk (.both (.stop [0, 2, 3]) (.stop [])) (S := .fork (decide ((↑i : Int) < c)) (.stop (Hd.call 31 [.int .i64 1, .ptr 0 0, .ptr 2 0, .ptr 3 0]) [0, 2, 3] ([bk 0 [.data 1 n (by8 y)], bk 2 [.sint .i64 a0], bk 3 [.bool true]])) (.stop (Hd.leaf (.tuple [.agg lpZ, .int .i64 5])) [] ([]))) (by kernel_rfl) ?_
       refine hold_forkD (fun h13 => ?_) (fun h13 => ?_)
       ·
        refine hold_stop (fun hd hb => ?_)
        have hz := hr
        refine tk_call hd (tb1 n y _ hn ?_) hb (by decide) (by decide) (by kernel_rfl) fit1_n ?_
        focus omega
        rintro x G ⟨a, v, ha, ha1, hv, hv1, rfl, rfl⟩
        clear hz
        refine ok_sk (.l (.l (.l (.l (.l (.l (.l (.l (.l (.l (.l (.l (.stop [0, 1, 2, 3, 4, 5, 9, 10]))))))))))))) (S := .left (decide (i = i)) (.left (decide ((-9223372036854775808 : Int) ≤ v ∧ v ≤ 9223372036854775807)) (.left (decide ((-9223372036854775808 : Int) ≤ v - 1 ∧ v - 1 ≤ 9223372036854775807)) (.left (decide (v - 1 = v - 1)) (.left (decide ((-9223372036854775808 : Int) ≤ v - 1 ∧ v - 1 ≤ 9223372036854775807)) (.left (decide (v - 1 = v - 1)) (.left (decide ((-9223372036854775808 : Int) ≤ v ∧ v ≤ 9223372036854775807)) (.left (decide (v = v)) (.left (decide (i = i)) (.left (@decide (1 < 65536 ∧ RowsOK 1 1 fun (i : Nat) => List.take 1 (List.drop (i * 1) [.sint .i64 (v - 1)])) pd) (.left (decide (i ≤ i ∧ i < 65536)) (.left (decide (0 ≤ (↑i : Int) + 1 ∧ (↑i : Int) + 1 ≤ 18446744073709551615)) (.stop (Hd.again (again' bT bG bM { i := i, a := a0, c := c, R := R, k := k, hr := hr }) [.top, .ptr 0 0, .ptr 1 0, .top, .ptr 2 0, .ptr 3 0, fT, .ptr 4 0, .top, .top, .top, .top, .top, .top, .top, .top, .top, .top, .top, .top, .top, .top, .top, .top, .top, .top, .top, .top, .top, .top, .top, .top, .top, .top, .top, .top, .top, .top, .top, .top, .top, .top, .top, .top, .top, .top, .top, .top, .top, .top, .top, .top, .top, .top, .top, .top, .top, .top, .top, .top, .top, .top, .top, .top, .top, .top, .sint .u64 c, .sint .u64 ((↑i : Int) + 1), .bool true, .ptr 4 11, .gsl 5 i, fT, .sint .u64 v, .sint .i64 v, .sint .i64 (v - 1), .slice 9 0 1 1 true, .gsl 10 (i + 1), .ptr 4 11, .sint .u64 ((↑i : Int) + 1), .top, .top, .top, .top, .top, .top, .top, .top, .top, .top, .top, .top, .top, .top]) [0, 1, 2, 3, 4, 5, 9, 10] ([bk 0 [.data 1 n (by8 y)], bk 1 lpZ, bk 2 [.sint .i64 a], bk 3 [.bool true], bk 4 [.top, .top, .top, .top, .top, .top, .top, .top, .top, .top, .top, .gsl 10 (i + 1)], (some Blk.dead, none), bk 9 [.sint .i64 (v - 1)], (some (Blk.seq 10 1 (i + 1) (glue i R fun (i : Nat) => List.take 1 (List.drop (i * 1) [.sint .i64 (v - 1)]))), some (1, i + 1, glue i R fun (i : Nat) => List.take 1 (List.drop (i * 1) [.sint .i64 (v - 1)])))])))))))))))))) (by kernel_rfl) ?_
        refine hl (bc fun h15 => by omega) ?_
        refine hl (bc fun h15 => by omega) ?_
        refine hl (bc fun h15 => by omega) ?_
        refine hl (bc fun h15 => by omega) ?_
        refine hl (bc fun h15 => by omega) ?_
        refine hl (bc fun h15 => by omega) ?_
        refine hl (bc fun h15 => by omega) ?_
        refine hl (bc fun h15 => by omega) ?_
        refine hl (bc fun h15 => by omega) ?_
        refine hl (bc fun h15 => by exact h15 ⟨by omega, fun j hj => by obtain rfl : j = 0 := (by omega); exact ⟨rfl, rfl⟩⟩) ?_
        refine hl (bc fun h15 => by omega) ?_
        refine hl (bc fun h15 => by omega) ?_
        refine hold_stop (fun hd hb => ?_)
        have hn := fun j hj => (nfs_glue (i := i) (R := R) (g := fun q => List.take 1 (List.drop (q * 1) [AV.sint .i64 (v - 1)])) hr rfl j hj).2
        refine ok_again hd [some 0, some 1, some 2, some 3, some 4, some 10] ⟨i + 1, _, c, _, ?_, hn⟩ ?_ (fits6b (look_get hb 0 rfl rfl).1 (look_get hb 1 rfl rfl).1 (look_get hb 2 rfl rfl).1 (look_get hb 3 rfl rfl).1 (look_get hb 4 rfl rfl).1 (look_get hb 7 rfl rfl).2 (by decide) (lpT_fit fit_n ⟨rfl, rfl⟩) fit_n (fit_g rfl) hn)
        · omega
        · show (c - ((i + 1 : Nat) : Int)).toNat < (c - (i : Int)).toNat
          omega
       refine hold_stop (fun hd hb => ?_)
       exact ok_leaf0 hd rfl (.inr ⟨fun h => by have := h.1; omega, rfl, rfl⟩)
      refine ok_sk (.stop [0, 2, 3]) (S := .stop (Hd.call 31 [.int .i64 1, .ptr 0 0, .ptr 2 0, .ptr 3 0]) [0, 2, 3] ([bk 0 [.data 1 n (by8 y)], bk 2 [.sint .i64 (0 : Int)], bk 3 [.bool true]])) (by kernel_rfl) ?_
      refine hold_stop (fun hd hb => ?_)
      refine tk_call hd (tb1 n y _ hn ?_) hb (by decide) (by decide) (by kernel_rfl) fit1_n ?_
      focus omega
      rintro x G ⟨a, vh5, ha, ha1, hv, hv1, rfl, rfl⟩
      refine ok_sk (.stop [0, 2, 3]) (S := .stop (Hd.call 31 [.int .i64 8, .ptr 0 0, .ptr 2 0, .ptr 3 0]) [0, 2, 3] ([bk 0 [.data 1 n (by8 y)], bk 2 [.sint .i64 a], bk 3 [.bool true]])) (by kernel_rfl) ?_
      refine hold_stop (fun hd hb => ?_)
      refine tk_call hd (tb8 n y _ hn ?_) hb (by decide) (by decide) (by kernel_rfl) fit1_n ?_
      focus omega
      rintro x G ⟨a, ha, ha1, rfl, rfl⟩
      refine ok_sk (.stop [0, 2, 3]) (S := .stop (Hd.call 31 [.int .i64 2, .ptr 0 0, .ptr 2 0, .ptr 3 0]) [0, 2, 3] ([bk 0 [.data 1 n (by8 y)], bk 2 [.sint .i64 a], bk 3 [.bool true]])) (by kernel_rfl) ?_
      refine hold_stop (fun hd hb => ?_)
      refine tk_call hd (tb2 n y _ hn ?_) hb (by decide) (by decide) (by kernel_rfl) fit1_n ?_
      focus omega
      rintro x G ⟨a, vh7, ha, ha1, hv, hv1, rfl, rfl⟩
      refine ok_sk (.l (.l (.stop [0, 2, 3]))) (S := .left (decide ((-9223372036854775808 : Int) ≤ vh7 ∧ vh7 ≤ 9223372036854775807)) (.left (decide ((-9223372036854775808 : Int) ≤ vh7 - 1 ∧ vh7 - 1 ≤ 9223372036854775807)) (.stop (Hd.call 31 [.int .i64 8, .ptr 0 0, .ptr 2 0, .ptr 3 0]) [0, 2, 3] ([bk 0 [.data 1 n (by8 y)], bk 2 [.sint .i64 a], bk 3 [.bool true]])))) (by kernel_rfl) ?_
      refine hl (bc fun h8 => by omega) ?_
      refine hl (bc fun h8 => by omega) ?_
      refine hold_stop (fun hd hb => ?_)
      refine tk_call hd (tb8 n y _ hn ?_) hb (by decide) (by decide) (by kernel_rfl) fit1_n ?_
      focus omega
      rintro x G ⟨a, ha, ha1, rfl, rfl⟩
      refine ok_sk (.stop [0, 2, 3]) (S := .stop (Hd.call 31 [.int .i64 8, .ptr 0 0, .ptr 2 0, .ptr 3 0]) [0, 2, 3] ([bk 0 [.data 1 n (by8 y)], bk 2 [.sint .i64 a], bk 3 [.bool true]])) (by kernel_rfl) ?_
      refine hold_stop (fun hd hb => ?_)
      refine tk_call hd (tb8 n y _ hn ?_) hb (by decide) (by decide) (by kernel_rfl) fit1_n ?_
      focus omega
      rintro x G ⟨a, ha, ha1, rfl, rfl⟩
      refine ok_sk (.stop [0, 2, 3]) (S := .stop (Hd.call 31 [.int .i64 8, .ptr 0 0, .ptr 2 0, .ptr 3 0]) [0, 2, 3] ([bk 0 [.data 1 n (by8 y)], bk 2 [.sint .i64 a], bk 3 [.bool true]])) (by kernel_rfl) ?_
      refine hold_stop (fun hd hb => ?_)
      refine tk_call hd (tb8 n y _ hn ?_) hb (by decide) (by decide) (by kernel_rfl) fit1_n ?_
      focus omega
      rintro x G ⟨a, ha, ha1, rfl, rfl⟩
      refine ok_sk (.stop [0, 2, 3]) (S := .stop (Hd.call 31 [.int .i64 1, .ptr 0 0, .ptr 2 0, .ptr 3 0]) [0, 2, 3] ([bk 0 [.data 1 n (by8 y)], bk 2 [.sint .i64 a], bk 3 [.bool true]])) (by kernel_rfl) ?_
      refine hold_stop (fun hd hb => ?_)
      refine tk_call hd (tb1 n y _ hn ?_) hb (by decide) (by decide) (by kernel_rfl) fit1_n ?_
      focus omega
      rintro x G ⟨a, vh11, ha, ha1, hv, hv1, rfl, rfl⟩
      refine ok_sk (.stop [0, 1, 2, 3, 4, 8]) (S := .stop (Hd.loop 43 [.data 1 n (by8 y), .ptr 0 0, .ptr 1 0, .int .i64 0, .ptr 2 0, .ptr 3 0, fT, .ptr 4 0, .tuple [], .ptr 4 8, fT, fT, .sint .u64 (n1 (sh y 0)), .sint .u8 (n1 (sh y 0) % 256), .ptr 4 0, .ptr 4 1, .ptr 4 9, .ptr 4 8, .slice 8 0 3 3 true, .int .i64 3, .int .i64 3, .bool false, .ptr 8 2, .ptr 4 8, .ptr 4 8, fT, .sint .u64 (n2 (sh y 5)), .sint .i64 (n2 (sh y 5)), m2 y 5, .ptr 4 8, .int .i64 3, fT, .int .u64 0, .int .i64 0, .int .i64 (Int.negSucc 0), .ptr 4 10, fT, .sint .u64 vh5, .sint .u8 (vh5 % 256), .ptr 4 2, .ptr 4 2, fT, AV.unkI IntKind.u64, .ptr 4 2, .ptr 4 3, fT, .sint .u64 vh7, .sint .i64 vh7, .sint .i64 (vh7 - 1), .ptr 4 2, .ptr 4 4, fT, AV.unkI IntKind.u64, AV.unkI IntKind.i64, AV.unkI IntKind.i64, .ptr 4 2, .ptr 4 5, fT, AV.unkI IntKind.u64, .ptr 4 2, .ptr 4 6, fT, AV.unkI IntKind.u64, .ptr 4 2, .ptr 4 7, fT, .sint .u64 vh11, .int .u64 0, .tuple [], .tuple [], .tuple [], .tuple [], .tuple [], .tuple [], .tuple [], .tuple [], .tuple [], .tuple [], .tuple [], .tuple [], .tuple [], .tuple [], .tuple [], .tuple [], .tuple [], .tuple [], .tuple [], .tuple [], .tuple [], .tuple [], .tuple [], .tuple [], .tuple []]) [0, 1, 2, 3, 4, 8] ([bk 0 [.data 1 n (by8 y)], bk 1 lpZ, bk 2 [.sint .i64 a], bk 3 [.bool true], bk 4 [.sint .u8 (n1 (sh y 0) % 256), m2 y 1, .sint .u8 (vh5 % 256), AV.unkI IntKind.u64, .sint .i64 (vh7 - 1), AV.unkI IntKind.i64, AV.unkI IntKind.u64, AV.unkI IntKind.u64, m2 y 5, m2 y 3, .int .i64 (Int.negSucc 0), .nilSlice], bk 8 [.ptr 4 1, .ptr 4 9, .ptr 4 8]])) (by kernel_rfl) ?_
      refine hold_stop (fun hd hb => ?_)
      refine ok_loop hd (X := BS n y) bT bG bM [some 0, some 1, some 2, some 3, some 4, none] ⟨0, _, _, fun _ => [], ?_, fun j hj => absurd hj (Nat.not_lt_zero j)⟩ (fits6n (look_get hb 0 rfl rfl).1 (look_get hb 1 rfl rfl).1 (look_get hb 2 rfl rfl).1 (look_get hb 3 rfl rfl).1 (look_get hb 4 rfl rfl).1 (by decide) (lpT_fit fit_n fit_i) fit_n (br_fit fit_nil rfl)) ?_
      focus omega
      rintro ⟨i, a0, c, R, k, hr⟩
      refine ok_sk (.both (.stop [0, 2, 3]) (.stop [])) (S := .fork (decide ((↑i : Int) < c)) (.stop (Hd.call 31 [.int .i64 1, .ptr 0 0, .ptr 2 0, .ptr 3 0]) [0, 2, 3] ([bk 0 [.data 1 n (by8 y)], bk 2 [.sint .i64 a0], bk 3 [.bool true]])) (.stop (Hd.leaf (.tuple [.agg lpZ, .int .i64 5])) [] ([]))) (by kernel_rfl) ?_
      refine hold_forkD (fun h13 => ?_) (fun h13 => ?_)
      ·
       refine hold_stop (fun hd hb => ?_)
       have hz := hr
       refine tk_call hd (tb1 n y _ hn ?_) hb (by decide) (by decide) (by kernel_rfl) fit1_n ?_
       focus omega
       rintro x G ⟨a, v, ha, ha1, hv, hv1, rfl, rfl⟩
       clear hz
       refine ok_sk (.l (.l (.l (.l (.l (.l (.l (.l (.l (.l (.l (.l (.stop [0, 1, 2, 3, 4, 5, 9, 10]))))))))))))) (S := .left (decide (i = i)) (.left (decide ((-9223372036854775808 : Int) ≤ v ∧ v ≤ 9223372036854775807)) (.left (decide ((-9223372036854775808 : Int) ≤ v - 1 ∧ v - 1 ≤ 9223372036854775807)) (.left (decide (v - 1 = v - 1)) (.left (decide ((-9223372036854775808 : Int) ≤ v - 1 ∧ v - 1 ≤ 9223372036854775807)) (.left (decide (v - 1 = v - 1)) (.left (decide ((-9223372036854775808 : Int) ≤ v ∧ v ≤ 9223372036854775807)) (.left (decide (v = v)) (.left (decide (i = i)) (.left (@decide (1 < 65536 ∧ RowsOK 1 1 fun (i : Nat) => List.take 1 (List.drop (i * 1) [.sint .i64 (v - 1)])) pd) (.left (decide (i ≤ i ∧ i < 65536)) (.left (decide (0 ≤ (↑i : Int) + 1 ∧ (↑i : Int) + 1 ≤ 18446744073709551615)) (.stop (Hd.again (again' bT bG bM { i := i, a := a0, c := c, R := R, k := k, hr := hr }) [.top, .ptr 0 0, .ptr 1 0, .top, .ptr 2 0, .ptr 3 0, fT, .ptr 4 0, .top, .top, .top, .top, .top, .top, .top, .top, .top, .top, .top, .top, .top, .top, .top, .top, .top, .top, .top, .top, .top, .top, .top, .top, .top, .top, .top, .top, .top, .top, .top, .top, .top, .top, .top, .top, .top, .top, .top, .top, .top, .top, .top, .top, .top, .top, .top, .top, .top, .top, .top, .top, .top, .top, .top, .top, .top, .top, .sint .u64 c, .sint .u64 ((↑i : Int) + 1), .bool true, .ptr 4 11, .gsl 5 i, fT, .sint .u64 v, .sint .i64 v, .sint .i64 (v - 1), .slice 9 0 1 1 true, .gsl 10 (i + 1), .ptr 4 11, .sint .u64 ((↑i : Int) + 1), .top, .top, .top, .top, .top, .top, .top, .top, .top, .top, .top, .top, .top, .top]) [0, 1, 2, 3, 4, 5, 9, 10] ([bk 0 [.data 1 n (by8 y)], bk 1 lpZ, bk 2 [.sint .i64 a], bk 3 [.bool true], bk 4 [.top, .top, .top, .top, .top, .top, .top, .top, .top, .top, .top, .gsl 10 (i + 1)], (some Blk.dead, none), bk 9 [.sint .i64 (v - 1)], (some (Blk.seq 10 1 (i + 1) (glue i R fun (i : Nat) => List.take 1 (List.drop (i * 1) [.sint .i64 (v - 1)]))), some (1, i + 1, glue i R fun (i : Nat) => List.take 1 (List.drop (i * 1) [.sint .i64 (v - 1)])))])))))))))))))) (by kernel_rfl) ?_
       refine hl (bc fun h15 => by omega) ?_
       refine hl (bc fun h15 => by omega) ?_
       refine hl (bc fun h15 => by omega) ?_
       refine hl (bc fun h15 => by omega) ?_
       refine hl (bc fun h15 => by omega) ?_
       refine hl (bc fun h15 => by omega) ?_
       refine hl (bc fun h15 => by omega) ?_
       refine hl (bc fun h15 => by omega) ?_
       refine hl (bc fun h15 => by omega) ?_
       refine hl (bc fun h15 => by exact h15 ⟨by omega, fun j hj => by obtain rfl : j = 0 := (by omega); exact ⟨rfl, rfl⟩⟩) ?_
       refine hl (bc fun h15 => by omega) ?_
       refine hl (bc fun h15 => by omega) ?_
       refine hold_stop (fun hd hb => ?_)
       have hn := fun j hj => (nfs_glue (i := i) (R := R) (g := fun q => List.take 1 (List.drop (q * 1) [AV.sint .i64 (v - 1)])) hr rfl j hj).2
       refine ok_again hd [some 0, some 1, some 2, some 3, some 4, some 10] ⟨i + 1, _, c, _, ?_, hn⟩ ?_ (fits6b (look_get hb 0 rfl rfl).1 (look_get hb 1 rfl rfl).1 (look_get hb 2 rfl rfl).1 (look_get hb 3 rfl rfl).1 (look_get hb 4 rfl rfl).1 (look_get hb 7 rfl rfl).2 (by decide) (lpT_fit fit_n ⟨rfl, rfl⟩) fit_n (fit_g rfl) hn)
       · omega
       · show (c - ((i + 1 : Nat) : Int)).toNat < (c - (i : Int)).toNat
         omega
      refine hold_stop (fun hd hb => ?_)
      exact ok_leaf0 hd rfl (.inr ⟨fun h => by have := h.1; omega, rfl, rfl⟩)
     refine ok_sk (.stop [0, 2, 3]) (S := .stop (Hd.call 31 [.int .i64 4, .ptr 0 0, .ptr 2 0, .ptr 3 0]) [0, 2, 3] ([bk 0 [.data 1 n (by8 y)], bk 2 [.sint .i64 (0 : Int)], bk 3 [.bool true]])) (by kernel_rfl) ?_
     refine hold_stop (fun hd hb => ?_)
     refine tk_call hd (tb4 n y _ hn ?_) hb (by decide) (by decide) (by kernel_rfl) fit1_n ?_
     focus omega
     rintro x G ⟨a, vh4, ha, ha1, hv, hv1, rfl, rfl⟩
     refine ok_sk (.l (.l (.stop [0, 2, 3]))) (S := .left (decide ((-9223372036854775808 : Int) ≤ vh4 ∧ vh4 ≤ 9223372036854775807)) (.left (decide ((-9223372036854775808 : Int) ≤ vh4 - 1 ∧ vh4 - 1 ≤ 9223372036854775807)) (.stop (Hd.call 31 [.int .i64 1, .ptr 0 0, .ptr 2 0, .ptr 3 0]) [0, 2, 3] ([bk 0 [.data 1 n (by8 y)], bk 2 [.sint .i64 a], bk 3 [.bool true]])))) (by kernel_rfl) ?_
     refine hl (bc fun h5 => by omega) ?_
     refine hl (bc fun h5 => by omega) ?_
     refine hold_stop (fun hd hb => ?_)
     refine tk_call hd (tb1 n y _ hn ?_) hb (by decide) (by decide) (by kernel_rfl) fit1_n ?_
     focus omega
     rintro x G ⟨a, vh5, ha, ha1, hv, hv1, rfl, rfl⟩
     refine ok_sk (.stop [0, 2, 3]) (S := .stop (Hd.call 31 [.int .i64 8, .ptr 0 0, .ptr 2 0, .ptr 3 0]) [0, 2, 3] ([bk 0 [.data 1 n (by8 y)], bk 2 [.sint .i64 a], bk 3 [.bool true]])) (by kernel_rfl) ?_
     refine hold_stop (fun hd hb => ?_)
     refine tk_call hd (tb8 n y _ hn ?_) hb (by decide) (by decide) (by kernel_rfl) fit1_n ?_
     focus omega
     rintro x G ⟨a, ha, ha1, rfl, rfl⟩
     refine ok_sk (.stop [0, 2, 3]) (S := .stop (Hd.call 31 [.int .i64 2, .ptr 0 0, .ptr 2 0, .ptr 3 0]) [0, 2, 3] ([bk 0 [.data 1 n (by8 y)], bk 2 [.sint .i64 a], bk 3 [.bool true]])) (by kernel_rfl) ?_
     refine hold_stop (fun hd hb => ?_)
     refine tk_call hd (tb2 n y _ hn ?_) hb (by decide) (by decide) (by kernel_rfl) fit1_n ?_
     focus omega
     rintro x G ⟨a, vh7, ha, ha1, hv, hv1, rfl, rfl⟩
     refine ok_sk (.l (.l (.stop [0, 2, 3]))) (S := .left (decide ((-9223372036854775808 : Int) ≤ vh7 ∧ vh7 ≤ 9223372036854775807)) (.left (decide ((-9223372036854775808 : Int) ≤ vh7 - 1 ∧ vh7 - 1 ≤ 9223372036854775807)) (.stop (Hd.call 31 [.int .i64 8, .ptr 0 0, .ptr 2 0, .ptr 3 0]) [0, 2, 3] ([bk 0 [.data 1 n (by8 y)], bk 2 [.sint .i64 a], bk 3 [.bool true]])))) (by kernel_rfl) ?_
     refine hl (bc fun h8 => by omega) ?_
     refine hl (bc fun h8 => by omega) ?_
     refine hold_stop (fun hd hb => ?_)
     refine tk_call hd (tb8 n y _ hn ?_) hb (by decide) (by decide) (by kernel_rfl) fit1_n ?_
     focus omega
     rintro x G ⟨a, ha, ha1, rfl, rfl⟩
     refine ok_sk (.stop [0, 2, 3]) (S := .stop (Hd.call 31 [.int .i64 8, .ptr 0 0, .ptr 2 0, .ptr 3 0]) [0, 2, 3] ([bk 0 [.data 1 n (by8 y)], bk 2 [.sint .i64 a], bk 3 [.bool true]])) (by kernel_rfl) ?_
     refine hold_stop (fun hd hb => ?_)
     refine tk_call hd (tb8 n y _ hn ?_) hb (by decide) (by decide) (by kernel_rfl) fit1_n ?_
     focus omega
     rintro x G ⟨a, ha, ha1, rfl, rfl⟩
     refine ok_sk (.stop [0, 2, 3]) (S := .stop (Hd.call 31 [.int .i64 8, .ptr 0 0, .ptr 2 0, .ptr 3 0]) [0, 2, 3] ([bk 0 [.data 1 n (by8 y)], bk 2 [.sint .i64 a], bk 3 [.bool true]])) (by kernel_rfl) ?_
     refine hold_stop (fun hd hb => ?_)
     refine tk_call hd (tb8 n y _ hn ?_) hb (by decide) (by decide) (by kernel_rfl) fit1_n ?_
     focus omega
     rintro x G ⟨a, ha, ha1, rfl, rfl⟩
     refine ok_sk (.stop [0, 2, 3]) (S := .stop (Hd.call 31 [.int .i64 1, .ptr 0 0, .ptr 2 0, .ptr 3 0]) [0, 2, 3] ([bk 0 [.data 1 n (by8 y)], bk 2 [.sint .i64 a], bk 3 [.bool true]])) (by kernel_rfl) ?_
     refine hold_stop (fun hd hb => ?_)
     refine tk_call hd (tb1 n y _ hn ?_) hb (by decide) (by decide) (by kernel_rfl) fit1_n ?_
     focus omega
     rintro x G ⟨a, vh11, ha, ha1, hv, hv1, rfl, rfl⟩
     refine ok_sk (.stop [0, 1, 2, 3, 4, 8]) (S := .stop (Hd.loop 43 [.data 1 n (by8 y), .ptr 0 0, .ptr 1 0, .int .i64 0, .ptr 2 0, .ptr 3 0, fT, .ptr 4 0, .tuple [], .ptr 4 8, fT, fT, .sint .u64 (n1 (sh y 0)), .sint .u8 (n1 (sh y 0) % 256), .ptr 4 0, .ptr 4 1, .ptr 4 9, .ptr 4 8, .slice 8 0 3 3 true, .int .i64 3, .int .i64 3, .bool false, .ptr 8 2, .ptr 4 8, .ptr 4 8, fT, .int .u64 0, .int .i64 0, .int .i64 (Int.negSucc 0), .ptr 4 8, .int .i64 3, fT, .sint .u64 vh4, .sint .i64 vh4, .sint .i64 (vh4 - 1), .ptr 4 10, fT, .sint .u64 vh5, .sint .u8 (vh5 % 256), .ptr 4 2, .ptr 4 2, fT, AV.unkI IntKind.u64, .ptr 4 2, .ptr 4 3, fT, .sint .u64 vh7, .sint .i64 vh7, .sint .i64 (vh7 - 1), .ptr 4 2, .ptr 4 4, fT, AV.unkI IntKind.u64, AV.unkI IntKind.i64, AV.unkI IntKind.i64, .ptr 4 2, .ptr 4 5, fT, AV.unkI IntKind.u64, .ptr 4 2, .ptr 4 6, fT, AV.unkI IntKind.u64, .ptr 4 2, .ptr 4 7, fT, .sint .u64 vh11, .int .u64 0, .tuple [], .tuple [], .tuple [], .tuple [], .tuple [], .tuple [], .tuple [], .tuple [], .tuple [], .tuple [], .tuple [], .tuple [], .tuple [], .tuple [], .tuple [], .tuple [], .tuple [], .tuple [], .tuple [], .tuple [], .tuple [], .tuple [], .tuple [], .tuple [], .tuple []]) [0, 1, 2, 3, 4, 8] ([bk 0 [.data 1 n (by8 y)], bk 1 lpZ, bk 2 [.sint .i64 a], bk 3 [.bool true], bk 4 [.sint .u8 (n1 (sh y 0) % 256), m2 y 1, .sint .u8 (vh5 % 256), AV.unkI IntKind.u64, .sint .i64 (vh7 - 1), AV.unkI IntKind.i64, AV.unkI IntKind.u64, AV.unkI IntKind.u64, .int .i64 (Int.negSucc 0), m2 y 3, .sint .i64 (vh4 - 1), .nilSlice], bk 8 [.ptr 4 1, .ptr 4 9, .ptr 4 8]])) (by kernel_rfl) ?_
     refine hold_stop (fun hd hb => ?_)
     refine ok_loop hd (X := BS n y) bT bG bM [some 0, some 1, some 2, some 3, some 4, none] ⟨0, _, _, fun _ => [], ?_, fun j hj => absurd hj (Nat.not_lt_zero j)⟩ (fits6n (look_get hb 0 rfl rfl).1 (look_get hb 1 rfl rfl).1 (look_get hb 2 rfl rfl).1 (look_get hb 3 rfl rfl).1 (look_get hb 4 rfl rfl).1 (by decide) (lpT_fit fit_n fit_i) fit_n (br_fit fit_nil rfl)) ?_
     focus omega
     rintro ⟨i, a0, c, R, k, hr⟩
     refine ok_sk (.both (.stop [0, 2, 3]) (.stop [])) (S := .fork (decide ((↑i : Int) < c)) (.stop (Hd.call 31 [.int .i64 1, .ptr 0 0, .ptr 2 0, .ptr 3 0]) [0, 2, 3] ([bk 0 [.data 1 n (by8 y)], bk 2 [.sint .i64 a0], bk 3 [.bool true]])) (.stop (Hd.leaf (.tuple [.agg lpZ, .int .i64 5])) [] ([]))) (by kernel_rfl) ?_
     refine hold_forkD (fun h13 => ?_) (fun h13 => ?_)
     ·
      refine hold_stop (fun hd hb => ?_)
      have hz := hr
      refine tk_call hd (tb1 n y _ hn ?_) hb (by decide) (by decide) (by kernel_rfl) fit1_n ?_
      focus omega
      rintro x G ⟨a, v, ha, ha1, hv, hv1, rfl, rfl⟩
      clear hz
      refine ok_sk (.l (.l (.l (.l (.l (.l (.l (.l (.l (.l (.l (.l (.stop [0, 1, 2, 3, 4, 5, 9, 10]))))))))))))) (S := .left (decide (i = i)) (.left (decide ((-9223372036854775808 : Int) ≤ v ∧ v ≤ 9223372036854775807)) (.left (decide ((-9223372036854775808 : Int) ≤ v - 1 ∧ v - 1 ≤ 9223372036854775807)) (.left (decide (v - 1 = v - 1)) (.left (decide ((-9223372036854775808 : Int) ≤ v - 1 ∧ v - 1 ≤ 9223372036854775807)) (.left (decide (v - 1 = v - 1)) (.left (decide ((-9223372036854775808 : Int) ≤ v ∧ v ≤ 9223372036854775807)) (.left (decide (v = v)) (.left (decide (i = i)) (.left (@decide (1 < 65536 ∧ RowsOK 1 1 fun (i : Nat) => List.take 1 (List.drop (i * 1) [.sint .i64 (v - 1)])) pd) (.left (decide (i ≤ i ∧ i < 65536)) (.left (decide (0 ≤ (↑i : Int) + 1 ∧ (↑i : Int) + 1 ≤ 18446744073709551615)) (.stop (Hd.again (again' bT bG bM { i := i, a := a0, c := c, R := R, k := k, hr := hr }) [.top, .ptr 0 0, .ptr 1 0, .top, .ptr 2 0, .ptr 3 0, fT, .ptr 4 0, .top, .top, .top, .top, .top, .top, .top, .top, .top, .top, .top, .top, .top, .top, .top, .top, .top, .top, .top, .top, .top, .top, .top, .top, .top, .top, .top, .top, .top, .top, .top, .top, .top, .top, .top, .top, .top, .top, .top, .top, .top, .top, .top, .top, .top, .top, .top, .top, .top, .top, .top, .top, .top, .top, .top, .top, .top, .top, .sint .u64 c, .sint .u64 ((↑i : Int) + 1), .bool true, .ptr 4 11, .gsl 5 i, fT, .sint .u64 v, .sint .i64 v, .sint .i64 (v - 1), .slice 9 0 1 1 true, .gsl 10 (i + 1), .ptr 4 11, .sint .u64 ((↑i : Int) + 1), .top, .top, .top, .top, .top, .top, .top, .top, .top, .top, .top, .top, .top, .top]) [0, 1, 2, 3, 4, 5, 9, 10] ([bk 0 [.data 1 n (by8 y)], bk 1 lpZ, bk 2 [.sint .i64 a], bk 3 [.bool true], bk 4 [.top, .top, .top, .top, .top, .top, .top, .top, .top, .top, .top, .gsl 10 (i + 1)], (some Blk.dead, none), bk 9 [.sint .i64 (v - 1)], (some (Blk.seq 10 1 (i + 1) (glue i R fun (i : Nat) => List.take 1 (List.drop (i * 1) [.sint .i64 (v - 1)]))), some (1, i + 1, glue i R fun (i : Nat) => List.take 1 (List.drop (i * 1) [.sint .i64 (v - 1)])))])))))))))))))) (by kernel_rfl) ?_
      refine hl (bc fun h15 => by omega) ?_
      refine hl (bc fun h15 => by omega) ?_
      refine hl (bc fun h15 => by omega) ?_
      refine hl (bc fun h15 => by omega) ?_
      refine hl (bc fun h15 => by omega) ?_
      refine hl (bc fun h15 => by omega) ?_
      refine hl (bc fun h15 => by omega) ?_
      refine hl (bc fun h15 => by omega) ?_
      refine hl (bc fun h15 => by omega) ?_
      refine hl (bc fun h15 => by exact h15 ⟨by omega, fun j hj => by obtain rfl : j = 0 := (by omega); exact ⟨rfl, rfl⟩⟩) ?_
      refine hl (bc fun h15 => by omega) ?_
      refine hl (bc fun h15 => by omega) ?_
      refine hold_stop (fun hd hb => ?_)
      have hn := fun j hj => (nfs_glue (i := i) (R := R) (g := fun q => List.take 1 (List.drop (q * 1) [AV.sint .i64 (v - 1)])) hr rfl j hj).2
      refine ok_again hd [some 0, some 1, some 2, some 3, some 4, some 10] ⟨i + 1, _, c, _, ?_, hn⟩ ?_ (fits6b (look_get hb 0 rfl rfl).1 (look_get hb 1 rfl rfl).1 (look_get hb 2 rfl rfl).1 (look_get hb 3 rfl rfl).1 (look_get hb 4 rfl rfl).1 (look_get hb 7 rfl rfl).2 (by decide) (lpT_fit fit_n ⟨rfl, rfl⟩) fit_n (fit_g rfl) hn)
      · omega
      · show (c - ((i + 1 : Nat) : Int)).toNat < (c - (i : Int)).toNat
        omega
     refine hold_stop (fun hd hb => ?_)
     exact ok_leaf0 hd rfl (.inr ⟨fun h => by have := h.1; omega, rfl, rfl⟩)
    refine ok_sk (.stop [0, 2, 3]) (S := .stop (Hd.call 31 [.int .i64 2, .ptr 0 0, .ptr 2 0, .ptr 3 0]) [0, 2, 3] ([bk 0 [.data 1 n (by8 y)], bk 2 [.sint .i64 (0 : Int)], bk 3 [.bool true]])) (by kernel_rfl) ?_
    refine hold_stop (fun hd hb => ?_)
    refine tk_call hd (tb2 n y _ hn ?_) hb (by decide) (by decide) (by kernel_rfl) fit1_n ?_
    focus omega
    rintro x G ⟨a, vh3, ha, ha1, hv, hv1, rfl, rfl⟩
    refine ok_sk (.l (.l (.stop [0, 2, 3]))) (S := .left (decide ((-9223372036854775808 : Int) ≤ vh3 ∧ vh3 ≤ 9223372036854775807)) (.left (decide ((-9223372036854775808 : Int) ≤ vh3 - 1 ∧ vh3 - 1 ≤ 9223372036854775807)) (.stop (Hd.call 31 [.int .i64 4, .ptr 0 0, .ptr 2 0, .ptr 3 0]) [0, 2, 3] ([bk 0 [.data 1 n (by8 y)], bk 2 [.sint .i64 a], bk 3 [.bool true]])))) (by kernel_rfl) ?_
    refine hl (bc fun h4 => by omega) ?_
    refine hl (bc fun h4 => by omega) ?_
    refine hold_stop (fun hd hb => ?_)
    refine tk_call hd (tb4 n y _ hn ?_) hb (by decide) (by decide) (by kernel_rfl) fit1_n ?_
    focus omega
    rintro x G ⟨a, vh4, ha, ha1, hv, hv1, rfl, rfl⟩
    refine ok_sk (.l (.l (.stop [0, 2, 3]))) (S := .left (decide ((-9223372036854775808 : Int) ≤ vh4 ∧ vh4 ≤ 9223372036854775807)) (.left (decide ((-9223372036854775808 : Int) ≤ vh4 - 1 ∧ vh4 - 1 ≤ 9223372036854775807)) (.stop (Hd.call 31 [.int .i64 1, .ptr 0 0, .ptr 2 0, .ptr 3 0]) [0, 2, 3] ([bk 0 [.data 1 n (by8 y)], bk 2 [.sint .i64 a], bk 3 [.bool true]])))) (by kernel_rfl) ?_
    refine hl (bc fun h5 => by omega) ?_
    refine hl (bc fun h5 => by omega) ?_
    refine hold_stop (fun hd hb => ?_)
    refine tk_call hd (tb1 n y _ hn ?_) hb (by decide) (by decide) (by kernel_rfl) fit1_n ?_
    focus omega
    rintro x G ⟨a, vh5, ha, ha1, hv, hv1, rfl, rfl⟩
    refine ok_sk (.stop [0, 2, 3]) (S := .stop (Hd.call 31 [.int .i64 8, .ptr 0 0, .ptr 2 0, .ptr 3 0]) [0, 2, 3] ([bk 0 [.data 1 n (by8 y)], bk 2 [.sint .i64 a], bk 3 [.bool true]])) (by kernel_rfl) ?_
    refine hold_stop (fun hd hb => ?_)
    refine tk_call hd (tb8 n y _ hn ?_) hb (by decide) (by decide) (by kernel_rfl) fit1_n ?_
    focus omega
    rintro x G ⟨a, ha, ha1, rfl, rfl⟩
    refine ok_sk (.stop [0, 2, 3]) (S := .stop (Hd.call 31 [.int .i64 2, .ptr 0 0, .ptr 2 0, .ptr 3 0]) [0, 2, 3] ([bk 0 [.data 1 n (by8 y)], bk 2 [.sint .i64 a], bk 3 [.bool true]])) (by kernel_rfl) ?_
    refine hold_stop (fun hd hb => ?_)
    refine tk_call hd (tb2 n y _ hn ?_) hb (by decide) (by decide) (by kernel_rfl) fit1_n ?_
    focus omega
    rintro x G ⟨a, vh7, ha, ha1, hv, hv1, rfl, rfl⟩
    refine ok_sk (.l (.l (.stop [0, 2, 3]))) (S := .left (decide ((-9223372036854775808 : Int) ≤ vh7 ∧ vh7 ≤ 9223372036854775807)) (.left (decide ((-9223372036854775808 : Int) ≤ vh7 - 1 ∧ vh7 - 1 ≤ 9223372036854775807)) (.stop (Hd.call 31 [.int .i64 8, .ptr 0 0, .ptr 2 0, .ptr 3 0]) [0, 2, 3] ([bk 0 [.data 1 n (by8 y)], bk 2 [.sint .i64 a], bk 3 [.bool true]])))) (by kernel_rfl) ?_
    refine hl (bc fun h8 => by omega) ?_
    refine hl (bc fun h8 => by omega) ?_
    refine hold_stop (fun hd hb => ?_)
    refine tk_call hd (tb8 n y _ hn ?_) hb (by decide) (by decide) (by kernel_rfl) fit1_n ?_
    focus omega
    rintro x G ⟨a, ha, ha1, rfl, rfl⟩
    refine ok_sk (.stop [0, 2, 3]) (S := .stop (Hd.call 31 [.int .i64 8, .ptr 0 0, .ptr 2 0, .ptr 3 0]) [0, 2, 3] ([bk 0 [.data 1 n (by8 y)], bk 2 [.sint .i64 a], bk 3 [.bool true]])) (by kernel_rfl) ?_
    refine hold_stop (fun hd hb => ?_)
    refine tk_call hd (tb8 n y _ hn ?_) hb (by decide) (by decide) (by kernel_rfl) fit1_n ?_
    focus omega
    rintro x G ⟨a, ha, ha1, rfl, rfl⟩
    refine ok_sk (.stop [0, 2, 3]) (S := .stop (Hd.call 31 [.int .i64 8, .ptr 0 0, .ptr 2 0, .ptr 3 0]) [0, 2, 3] ([bk 0 [.data 1 n (by8 y)], bk 2 [.sint .i64 a], bk 3 [.bool true]])) (by kernel_rfl) ?_
    refine hold_stop (fun hd hb => ?_)
    refine tk_call hd (tb8 n y _ hn ?_) hb (by decide) (by decide) (by kernel_rfl) fit1_n ?_
    focus omega
    rintro x G ⟨a, ha, ha1, rfl, rfl⟩
    refine ok_sk (.stop [0, 2, 3]) (S := .stop (Hd.call 31 [.int .i64 1, .ptr 0 0, .ptr 2 0, .ptr 3 0]) [0, 2, 3] ([bk 0 [.data 1 n (by8 y)], bk 2 [.sint .i64 a], bk 3 [.bool true]])) (by kernel_rfl) ?_
    refine hold_stop (fun hd hb => ?_)
    refine tk_call hd (tb1 n y _ hn ?_) hb (by decide) (by decide) (by kernel_rfl) fit1_n ?_
    focus omega
    rintro x G ⟨a, vh11, ha, ha1, hv, hv1, rfl, rfl⟩
    refine ok_sk (.stop [0, 1, 2, 3, 4, 8]) (S := .stop (Hd.loop 43 [.data 1 n (by8 y), .ptr 0 0, .ptr 1 0, .int .i64 0, .ptr 2 0, .ptr 3 0, fT, .ptr 4 0, .tuple [], .ptr 4 8, fT, fT, .sint .u64 (n1 (sh y 0)), .sint .u8 (n1 (sh y 0) % 256), .ptr 4 0, .ptr 4 1, .ptr 4 9, .ptr 4 8, .slice 8 0 3 3 true, .int .i64 3, .int .i64 3, .bool false, .ptr 8 2, .ptr 4 8, .ptr 4 8, fT, .sint .u64 vh3, .sint .i64 vh3, .sint .i64 (vh3 - 1), .ptr 4 8, .int .i64 3, fT, .sint .u64 vh4, .sint .i64 vh4, .sint .i64 (vh4 - 1), .ptr 4 10, fT, .sint .u64 vh5, .sint .u8 (vh5 % 256), .ptr 4 2, .ptr 4 2, fT, AV.unkI IntKind.u64, .ptr 4 2, .ptr 4 3, fT, .sint .u64 vh7, .sint .i64 vh7, .sint .i64 (vh7 - 1), .ptr 4 2, .ptr 4 4, fT, AV.unkI IntKind.u64, AV.unkI IntKind.i64, AV.unkI IntKind.i64, .ptr 4 2, .ptr 4 5, fT, AV.unkI IntKind.u64, .ptr 4 2, .ptr 4 6, fT, AV.unkI IntKind.u64, .ptr 4 2, .ptr 4 7, fT, .sint .u64 vh11, .int .u64 0, .tuple [], .tuple [], .tuple [], .tuple [], .tuple [], .tuple [], .tuple [], .tuple [], .tuple [], .tuple [], .tuple [], .tuple [], .tuple [], .tuple [], .tuple [], .tuple [], .tuple [], .tuple [], .tuple [], .tuple [], .tuple [], .tuple [], .tuple [], .tuple [], .tuple []]) [0, 1, 2, 3, 4, 8] ([bk 0 [.data 1 n (by8 y)], bk 1 lpZ, bk 2 [.sint .i64 a], bk 3 [.bool true], bk 4 [.sint .u8 (n1 (sh y 0) % 256), m2 y 1, .sint .u8 (vh5 % 256), AV.unkI IntKind.u64, .sint .i64 (vh7 - 1), AV.unkI IntKind.i64, AV.unkI IntKind.u64, AV.unkI IntKind.u64, .sint .i64 (vh3 - 1), .int .i64 (Int.negSucc 0), .sint .i64 (vh4 - 1), .nilSlice], bk 8 [.ptr 4 1, .ptr 4 9, .ptr 4 8]])) (by kernel_rfl) ?_
    refine hold_stop (fun hd hb => ?_)
    refine ok_loop hd (X := BS n y) bT bG bM [some 0, some 1, some 2, some 3, some 4, none] ⟨0, _, _, fun _ => [], ?_, fun j hj => absurd hj (Nat.not_lt_zero j)⟩ (fits6n (look_get hb 0 rfl rfl).1 (look_get hb 1 rfl rfl).1 (look_get hb 2 rfl rfl).1 (look_get hb 3 rfl rfl).1 (look_get hb 4 rfl rfl).1 (by decide) (lpT_fit fit_n fit_i) fit_n (br_fit fit_nil rfl)) ?_
    focus omega
    rintro ⟨i, a0, c, R, k, hr⟩
    refine ok_sk (.both (.stop [0, 2, 3]) (.stop [])) (S := .fork (decide ((↑i : Int) < c)) (.stop (Hd.call 31 [.int .i64 1, .ptr 0 0, .ptr 2 0, .ptr 3 0]) [0, 2, 3] ([bk 0 [.data 1 n (by8 y)], bk 2 [.sint .i64 a0], bk 3 [.bool true]])) (.stop (Hd.leaf (.tuple [.agg lpZ, .int .i64 5])) [] ([]))) (by kernel_rfl) ?_
    refine hold_forkD (fun h13 => ?_) (fun h13 => ?_)
    ·
     refine hold_stop (fun hd hb => ?_)
     have hz := hr
     refine tk_call hd (tb1 n y _ hn ?_) hb (by decide) (by decide) (by kernel_rfl) fit1_n ?_
     focus omega
     rintro x G ⟨a, v, ha, ha1, hv, hv1, rfl, rfl⟩
     clear hz
     refine ok_sk (.l (.l (.l (.l (.l (.l (.l (.l (.l (.l (.l (.l (.stop [0, 1, 2, 3, 4, 5, 9, 10]))))))))))))) (S := .left (decide (i = i)) (.left (decide ((-9223372036854775808 : Int) ≤ v ∧ v ≤ 9223372036854775807)) (.left (decide ((-9223372036854775808 : Int) ≤ v - 1 ∧ v - 1 ≤ 9223372036854775807)) (.left (decide (v - 1 = v - 1)) (.left (decide ((-9223372036854775808 : Int) ≤ v - 1 ∧ v - 1 ≤ 9223372036854775807)) (.left (decide (v - 1 = v - 1)) (.left (decide ((-9223372036854775808 : Int) ≤ v ∧ v ≤ 9223372036854775807)) (.left (decide (v = v)) (.left (decide (i = i)) (.left (@decide (1 < 65536 ∧ RowsOK 1 1 fun (i : Nat) => List.take 1 (List.drop (i * 1) [.sint .i64 (v - 1)])) pd) (.left (decide (i ≤ i ∧ i < 65536)) (.left (decide (0 ≤ (↑i : Int) + 1 ∧ (↑i : Int) + 1 ≤ 18446744073709551615)) (.stop (Hd.again (again' bT bG bM { i := i, a := a0, c := c, R := R, k := k, hr := hr }) [.top, .ptr 0 0, .ptr 1 0, .top, .ptr 2 0, .ptr 3 0, fT, .ptr 4 0, .top, .top, .top, .top, .top, .top, .top, .top, .top, .top, .top, .top, .top, .top, .top, .top, .top, .top, .top, .top, .top, .top, .top, .top, .top, .top, .top, .top, .top, .top, .top, .top, .top, .top, .top, .top, .top, .top, .top, .top, .top, .top, .top, .top, .top, .top, .top, .top, .top, .top, .top, .top, .top, .top, .top, .top, .top, .top, .sint .u64 c, .sint .u64 ((↑i : Int) + 1), .bool true, .ptr 4 11, .gsl 5 i, fT, .sint .u64 v, .sint .i64 v, .sint .i64 (v - 1), .slice 9 0 1 1 true, .gsl 10 (i + 1), .ptr 4 11, .sint .u64 ((↑i : Int) + 1), .top, .top, .top, .top, .top, .top, .top, .top, .top, .top, .top, .top, .top, .top]) [0, 1, 2, 3, 4, 5, 9, 10] ([bk 0 [.data 1 n (by8 y)], bk 1 lpZ, bk 2 [.sint .i64 a], bk 3 [.bool true], bk 4 [.top, .top, .top, .top, .top, .top, .top, .top, .top, .top, .top, .gsl 10 (i + 1)], (some Blk.dead, none), bk 9 [.sint .i64 (v - 1)], (some (Blk.seq 10 1 (i + 1) (glue i R fun (i : Nat) => List.take 1 (List.drop (i * 1) [.sint .i64 (v - 1)]))), some (1, i + 1, glue i R fun (i : Nat) => List.take 1 (List.drop (i * 1) [.sint .i64 (v - 1)])))])))))))))))))) (by kernel_rfl) ?_
     refine hl (bc fun h15 => by omega) ?_
     refine hl (bc fun h15 => by omega) ?_
     refine hl (bc fun h15 => by omega) ?_
     refine hl (bc fun h15 => by omega) ?_
     refine hl (bc fun h15 => by omega) ?_
     refine hl (bc fun h15 => by omega) ?_
     refine hl (bc fun h15 => by omega) ?_
     refine hl (bc fun h15 => by omega) ?_
     refine hl (bc fun h15 => by omega) ?_
     refine hl (bc fun h15 => by exact h15 ⟨by omega, fun j hj => by obtain rfl : j = 0 := (by omega); exact ⟨rfl, rfl⟩⟩) ?_
     refine hl (bc fun h15 => by omega) ?_
     refine hl (bc fun h15 => by omega) ?_
     refine hold_stop (fun hd hb => ?_)
     have hn := fun j hj => (nfs_glue (i := i) (R := R) (g := fun q => List.take 1 (List.drop (q * 1) [AV.sint .i64 (v - 1)])) hr rfl j hj).2
     refine ok_again hd [some 0, some 1, some 2, some 3, some 4, some 10] ⟨i + 1, _, c, _, ?_, hn⟩ ?_ (fits6b (look_get hb 0 rfl rfl).1 (look_get hb 1 rfl rfl).1 (look_get hb 2 rfl rfl).1 (look_get hb 3 rfl rfl).1 (look_get hb 4 rfl rfl).1 (look_get hb 7 rfl rfl).2 (by decide) (lpT_fit fit_n ⟨rfl, rfl⟩) fit_n (fit_g rfl) hn)
     · omega
     · show (c - ((i + 1 : Nat) : Int)).toNat < (c - (i : Int)).toNat
       omega
    refine hold_stop (fun hd hb => ?_)
    exact ok_leaf0 hd rfl (.inr ⟨fun h => by have := h.1; omega, rfl, rfl⟩)
   refine ok_sk (.stop [0, 2, 3]) (S := .stop (Hd.call 31 [.int .i64 2, .ptr 0 0, .ptr 2 0, .ptr 3 0]) [0, 2, 3] ([bk 0 [.data 1 n (by8 y)], bk 2 [.sint .i64 (0 : Int)], bk 3 [.bool true]])) (by kernel_rfl) ?_
   refine hold_stop (fun hd hb => ?_)
   refine tk_call hd (tb2 n y _ hn ?_) hb (by decide) (by decide) (by kernel_rfl) fit1_n ?_
   focus omega
   rintro x G ⟨a, vh2, ha, ha1, hv, hv1, rfl, rfl⟩
   refine ok_sk (.l (.l (.stop [0, 2, 3]))) (S := .left (decide ((-9223372036854775808 : Int) ≤ vh2 ∧ vh2 ≤ 9223372036854775807)) (.left (decide ((-9223372036854775808 : Int) ≤ vh2 - 1 ∧ vh2 - 1 ≤ 9223372036854775807)) (.stop (Hd.call 31 [.int .i64 2, .ptr 0 0, .ptr 2 0, .ptr 3 0]) [0, 2, 3] ([bk 0 [.data 1 n (by8 y)], bk 2 [.sint .i64 a], bk 3 [.bool true]])))) (by kernel_rfl) ?_
   refine hl (bc fun h3 => by omega) ?_
   refine hl (bc fun h3 => by omega) ?_
   refine hold_stop (fun hd hb => ?_)
   refine tk_call hd (tb2 n y _ hn ?_) hb (by decide) (by decide) (by kernel_rfl) fit1_n ?_
   focus omega
   rintro x G ⟨a, vh3, ha, ha1, hv, hv1, rfl, rfl⟩
   refine ok_sk (.l (.l (.stop [0, 2, 3]))) (S := .left (decide ((-9223372036854775808 : Int) ≤ vh3 ∧ vh3 ≤ 9223372036854775807)) (.left (decide ((-9223372036854775808 : Int) ≤ vh3 - 1 ∧ vh3 - 1 ≤ 9223372036854775807)) (.stop (Hd.call 31 [.int .i64 4, .ptr 0 0, .ptr 2 0, .ptr 3 0]) [0, 2, 3] ([bk 0 [.data 1 n (by8 y)], bk 2 [.sint .i64 a], bk 3 [.bool true]])))) (by kernel_rfl) ?_
   refine hl (bc fun h4 => by omega) ?_
   refine hl (bc fun h4 => by omega) ?_
   refine hold_stop (fun hd hb => ?_)
   refine tk_call hd (tb4 n y _ hn ?_) hb (by decide) (by decide) (by kernel_rfl) fit1_n ?_
   focus omega
   rintro x G ⟨a, vh4, ha, ha1, hv, hv1, rfl, rfl⟩
   refine ok_sk (.l (.l (.stop [0, 2, 3]))) (S := .left (decide ((-9223372036854775808 : Int) ≤ vh4 ∧ vh4 ≤ 9223372036854775807)) (.left (decide ((-9223372036854775808 : Int) ≤ vh4 - 1 ∧ vh4 - 1 ≤ 9223372036854775807)) (.stop (Hd.call 31 [.int .i64 1, .ptr 0 0, .ptr 2 0, .ptr 3 0]) [0, 2, 3] ([bk 0 [.data 1 n (by8 y)], bk 2 [.sint .i64 a], bk 3 [.bool true]])))) (by kernel_rfl) ?_
   refine hl (bc fun h5 => by omega) ?_
   refine hl (bc fun h5 => by omega) ?_
   refine hold_stop (fun hd hb => ?_)
   refine tk_call hd (tb1 n y _ hn ?_) hb (by decide) (by decide) (by kernel_rfl) fit1_n ?_
   focus omega
   rintro x G ⟨a, vh5, ha, ha1, hv, hv1, rfl, rfl⟩
   refine ok_sk (.stop [0, 2, 3]) (S := .stop (Hd.call 31 [.int .i64 8, .ptr 0 0, .ptr 2 0, .ptr 3 0]) [0, 2, 3] ([bk 0 [.data 1 n (by8 y)], bk 2 [.sint .i64 a], bk 3 [.bool true]])) (by kernel_rfl) ?_
   refine hold_stop (fun hd hb => ?_)
   refine tk_call hd (tb8 n y _ hn ?_) hb (by decide) (by decide) (by kernel_rfl) fit1_n ?_
   focus omega
   rintro x G ⟨a, ha, ha1, rfl, rfl⟩
   refine ok_sk (.stop [0, 2, 3]) (S := .stop (Hd.call 31 [.int .i64 2, .ptr 0 0, .ptr 2 0, .ptr 3 0]) [0, 2, 3] ([bk 0 [.data 1 n (by8 y)], bk 2 [.sint .i64 a], bk 3 [.bool true]])) (by kernel_rfl) ?_
   refine hold_stop (fun hd hb => ?_)
   refine tk_call hd (tb2 n y _ hn ?_) hb (by decide) (by decide) (by kernel_rfl) fit1_n ?_
   focus omega
   rintro x G ⟨a, vh7, ha, ha1, hv, hv1, rfl, rfl⟩
   refine ok_sk (.l (.l (.stop [0, 2, 3]))) (S := .left (decide ((-9223372036854775808 : Int) ≤ vh7 ∧ vh7 ≤ 9223372036854775807)) (.left (decide ((-9223372036854775808 : Int) ≤ vh7 - 1 ∧ vh7 - 1 ≤ 9223372036854775807)) (.stop (Hd.call 31 [.int .i64 8, .ptr 0 0, .ptr 2 0, .ptr 3 0]) [0, 2, 3] ([bk 0 [.data 1 n (by8 y)], bk 2 [.sint .i64 a], bk 3 [.bool true]])))) (by kernel_rfl) ?_
   refine hl (bc fun h8 => by omega) ?_
   refine hl (bc fun h8 => by omega) ?_
   refine hold_stop (fun hd hb => ?_)
   refine tk_call hd (tb8 n y _ hn ?_) hb (by decide) (by decide) (by kernel_rfl) fit1_n ?_
   focus omega
   rintro x G ⟨a, ha, ha1, rfl, rfl⟩
   refine ok_sk (.stop [0, 2, 3]) (S := .stop (Hd.call 31 [.int .i64 8, .ptr 0 0, .ptr 2 0, .ptr 3 0]) [0, 2, 3] ([bk 0 [.data 1 n (by8 y)], bk 2 [.sint .i64 a], bk 3 [.bool true]])) (by kernel_rfl) ?_
   refine hold_stop (fun hd hb => ?_)
   refine tk_call hd (tb8 n y _ hn ?_) hb (by decide) (by decide) (by kernel_rfl) fit1_n ?_
   focus omega
   rintro x G ⟨a, ha, ha1, rfl, rfl⟩
   refine ok_sk (.stop [0, 2, 3]) (S := .stop (Hd.call 31 [.int .i64 8, .ptr 0 0, .ptr 2 0, .ptr 3 0]) [0, 2, 3] ([bk 0 [.data 1 n (by8 y)], bk 2 [.sint .i64 a], bk 3 [.bool true]])) (by kernel_rfl) ?_
   refine hold_stop (fun hd hb => ?_)
   refine tk_call hd (tb8 n y _ hn ?_) hb (by decide) (by decide) (by kernel_rfl) fit1_n ?_
   focus omega
   rintro x G ⟨a, ha, ha1, rfl, rfl⟩
   refine ok_sk (.stop [0, 2, 3]) (S := .stop (Hd.call 31 [.int .i64 1, .ptr 0 0, .ptr 2 0, .ptr 3 0]) [0, 2, 3] ([bk 0 [.data 1 n (by8 y)], bk 2 [.sint .i64 a], bk 3 [.bool true]])) (by kernel_rfl) ?_
   refine hold_stop (fun hd hb => ?_)
   refine tk_call hd (tb1 n y _ hn ?_) hb (by decide) (by decide) (by kernel_rfl) fit1_n ?_
   focus omega
   rintro x G ⟨a, vh11, ha, ha1, hv, hv1, rfl, rfl⟩
   refine ok_sk (.stop [0, 1, 2, 3, 4, 8]) (S := .stop (Hd.loop 43 [.data 1 n (by8 y), .ptr 0 0, .ptr 1 0, .int .i64 0, .ptr 2 0, .ptr 3 0, fT, .ptr 4 0, .tuple [], .ptr 4 8, fT, fT, .sint .u64 (n1 (sh y 0)), .sint .u8 (n1 (sh y 0) % 256), .ptr 4 0, .ptr 4 1, .ptr 4 9, .ptr 4 8, .slice 8 0 3 3 true, .int .i64 3, .int .i64 3, .bool false, .ptr 8 2, .ptr 4 8, .ptr 4 8, fT, .sint .u64 vh3, .sint .i64 vh3, .sint .i64 (vh3 - 1), .ptr 4 8, .int .i64 3, fT, .sint .u64 vh4, .sint .i64 vh4, .sint .i64 (vh4 - 1), .ptr 4 10, fT, .sint .u64 vh5, .sint .u8 (vh5 % 256), .ptr 4 2, .ptr 4 2, fT, AV.unkI IntKind.u64, .ptr 4 2, .ptr 4 3, fT, .sint .u64 vh7, .sint .i64 vh7, .sint .i64 (vh7 - 1), .ptr 4 2, .ptr 4 4, fT, AV.unkI IntKind.u64, AV.unkI IntKind.i64, AV.unkI IntKind.i64, .ptr 4 2, .ptr 4 5, fT, AV.unkI IntKind.u64, .ptr 4 2, .ptr 4 6, fT, AV.unkI IntKind.u64, .ptr 4 2, .ptr 4 7, fT, .sint .u64 vh11, .int .u64 0, .tuple [], .tuple [], .tuple [], .tuple [], .tuple [], .tuple [], .tuple [], .tuple [], .tuple [], .tuple [], .tuple [], .tuple [], .tuple [], .tuple [], .tuple [], .tuple [], .tuple [], .tuple [], .tuple [], .tuple [], .tuple [], .tuple [], .tuple [], .tuple [], .tuple []]) [0, 1, 2, 3, 4, 8] ([bk 0 [.data 1 n (by8 y)], bk 1 lpZ, bk 2 [.sint .i64 a], bk 3 [.bool true], bk 4 [.sint .u8 (n1 (sh y 0) % 256), .int .i64 (Int.negSucc 0), .sint .u8 (vh5 % 256), AV.unkI IntKind.u64, .sint .i64 (vh7 - 1), AV.unkI IntKind.i64, AV.unkI IntKind.u64, AV.unkI IntKind.u64, .sint .i64 (vh3 - 1), .sint .i64 (vh2 - 1), .sint .i64 (vh4 - 1), .nilSlice], bk 8 [.ptr 4 1, .ptr 4 9, .ptr 4 8]])) (by kernel_rfl) ?_
   refine hold_stop (fun hd hb => ?_)
   refine ok_loop hd (X := BS n y) bT bG bM [some 0, some 1, some 2, some 3, some 4, none] ⟨0, _, _, fun _ => [], ?_, fun j hj => absurd hj (Nat.not_lt_zero j)⟩ (fits6n (look_get hb 0 rfl rfl).1 (look_get hb 1 rfl rfl).1 (look_get hb 2 rfl rfl).1 (look_get hb 3 rfl rfl).1 (look_get hb 4 rfl rfl).1 (by decide) (lpT_fit fit_n fit_i) fit_n (br_fit fit_nil rfl)) ?_
   focus omega
   rintro ⟨i, a0, c, R, k, hr⟩
   refine ok_sk (.both (.stop [0, 2, 3]) (.stop [])) (S := .fork (decide ((↑i : Int) < c)) (.stop (Hd.call 31 [.int .i64 1, .ptr 0 0, .ptr 2 0, .ptr 3 0]) [0, 2, 3] ([bk 0 [.data 1 n (by8 y)], bk 2 [.sint .i64 a0], bk 3 [.bool true]])) (.stop (Hd.leaf (.tuple [.agg lpZ, .int .i64 5])) [] ([]))) (by kernel_rfl) ?_
   refine hold_forkD (fun h13 => ?_) (fun h13 => ?_)
   ·
    refine hold_stop (fun hd hb => ?_)
    have hz := hr
    refine tk_call hd (tb1 n y _ hn ?_) hb (by decide) (by decide) (by kernel_rfl) fit1_n ?_
    focus omega
    rintro x G ⟨a, v, ha, ha1, hv, hv1, rfl, rfl⟩
    clear hz
    refine ok_sk (.l (.l (.l (.l (.l (.l (.l (.l (.l (.l (.l (.l (.stop [0, 1, 2, 3, 4, 5, 9, 10]))))))))))))) (S := .left (decide (i = i)) (.left (decide ((-9223372036854775808 : Int) ≤ v ∧ v ≤ 9223372036854775807)) (.left (decide ((-9223372036854775808 : Int) ≤ v - 1 ∧ v - 1 ≤ 9223372036854775807)) (.left (decide (v - 1 = v - 1)) (.left (decide ((-9223372036854775808 : Int) ≤ v - 1 ∧ v - 1 ≤ 9223372036854775807)) (.left (decide (v - 1 = v - 1)) (.left (decide ((-9223372036854775808 : Int) ≤ v ∧ v ≤ 9223372036854775807)) (.left (decide (v = v)) (.left (decide (i = i)) (.left (@decide (1 < 65536 ∧ RowsOK 1 1 fun (i : Nat) => List.take 1 (List.drop (i * 1) [.sint .i64 (v - 1)])) pd) (.left (decide (i ≤ i ∧ i < 65536)) (.left (decide (0 ≤ (↑i : Int) + 1 ∧ (↑i : Int) + 1 ≤ 18446744073709551615)) (.stop (Hd.again (again' bT bG bM { i := i, a := a0, c := c, R := R, k := k, hr := hr }) [.top, .ptr 0 0, .ptr 1 0, .top, .ptr 2 0, .ptr 3 0, fT, .ptr 4 0, .top, .top, .top, .top, .top, .top, .top, .top, .top, .top, .top, .top, .top, .top, .top, .top, .top, .top, .top, .top, .top, .top, .top, .top, .top, .top, .top, .top, .top, .top, .top, .top, .top, .top, .top, .top, .top, .top, .top, .top, .top, .top, .top, .top, .top, .top, .top, .top, .top, .top, .top, .top, .top, .top, .top, .top, .top, .top, .sint .u64 c, .sint .u64 ((↑i : Int) + 1), .bool true, .ptr 4 11, .gsl 5 i, fT, .sint .u64 v, .sint .i64 v, .sint .i64 (v - 1), .slice 9 0 1 1 true, .gsl 10 (i + 1), .ptr 4 11, .sint .u64 ((↑i : Int) + 1), .top, .top, .top, .top, .top, .top, .top, .top, .top, .top, .top, .top, .top, .top]) [0, 1, 2, 3, 4, 5, 9, 10] ([bk 0 [.data 1 n (by8 y)], bk 1 lpZ, bk 2 [.sint .i64 a], bk 3 [.bool true], bk 4 [.top, .top, .top, .top, .top, .top, .top, .top, .top, .top, .top, .gsl 10 (i + 1)], (some Blk.dead, none), bk 9 [.sint .i64 (v - 1)], (some (Blk.seq 10 1 (i + 1) (glue i R fun (i : Nat) => List.take 1 (List.drop (i * 1) [.sint .i64 (v - 1)]))), some (1, i + 1, glue i R fun (i : Nat) => List.take 1 (List.drop (i * 1) [.sint .i64 (v - 1)])))])))))))))))))) (by kernel_rfl) ?_
    refine hl (bc fun h15 => by omega) ?_
    refine hl (bc fun h15 => by omega) ?_
    refine hl (bc fun h15 => by omega) ?_
    refine hl (bc fun h15 => by omega) ?_
    refine hl (bc fun h15 => by omega) ?_
    refine hl (bc fun h15 => by omega) ?_
    refine hl (bc fun h15 => by omega) ?_
    refine hl (bc fun h15 => by omega) ?_
    refine hl (bc fun h15 => by omega) ?_
    refine hl (bc fun h15 => by exact h15 ⟨by omega, fun j hj => by obtain rfl : j = 0 := (by omega); exact ⟨rfl, rfl⟩⟩) ?_
    refine hl (bc fun h15 => by omega) ?_
    refine hl (bc fun h15 => by omega) ?_
    refine hold_stop (fun hd hb => ?_)
    have hn := fun j hj => (nfs_glue (i := i) (R := R) (g := fun q => List.take 1 (List.drop (q * 1) [AV.sint .i64 (v - 1)])) hr rfl j hj).2
    refine ok_again hd [some 0, some 1, some 2, some 3, some 4, some 10] ⟨i + 1, _, c, _, ?_, hn⟩ ?_ (fits6b (look_get hb 0 rfl rfl).1 (look_get hb 1 rfl rfl).1 (look_get hb 2 rfl rfl).1 (look_get hb 3 rfl rfl).1 (look_get hb 4 rfl rfl).1 (look_get hb 7 rfl rfl).2 (by decide) (lpT_fit fit_n ⟨rfl, rfl⟩) fit_n (fit_g rfl) hn)
    · omega
    · show (c - ((i + 1 : Nat) : Int)).toNat < (c - (i : Int)).toNat
      omega
   refine hold_stop (fun hd hb => ?_)
   exact ok_leaf0 hd rfl (.inr ⟨fun h => by have := h.1; omega, rfl, rfl⟩)
  refine ok_sk (.stop [0, 2, 3]) (S := .stop (Hd.call 31 [.int .i64 2, .ptr 0 0, .ptr 2 0, .ptr 3 0]) [0, 2, 3] ([bk 0 [.data 1 n (by8 y)], bk 2 [.sint .i64 (0 : Int)], bk 3 [.bool true]])) (by kernel_rfl) ?_
  refine hold_stop (fun hd hb => ?_)
  refine tk_call hd (tb2 n y _ hn ?_) hb (by decide) (by decide) (by kernel_rfl) fit1_n ?_
  focus omega
  rintro x G ⟨a, vh1, ha, ha1, hv, hv1, rfl, rfl⟩
  refine ok_sk (.l (.l (.stop [0, 2, 3]))) (S := .left (decide ((-9223372036854775808 : Int) ≤ vh1 ∧ vh1 ≤ 9223372036854775807)) (.left (decide ((-9223372036854775808 : Int) ≤ vh1 - 1 ∧ vh1 - 1 ≤ 9223372036854775807)) (.stop (Hd.call 31 [.int .i64 2, .ptr 0 0, .ptr 2 0, .ptr 3 0]) [0, 2, 3] ([bk 0 [.data 1 n (by8 y)], bk 2 [.sint .i64 a], bk 3 [.bool true]])))) (by kernel_rfl) ?_
  refine hl (bc fun h2 => by omega) ?_
  refine hl (bc fun h2 => by omega) ?_
  refine hold_stop (fun hd hb => ?_)
  refine tk_call hd (tb2 n y _ hn ?_) hb (by decide) (by decide) (by kernel_rfl) fit1_n ?_
  focus omega
  rintro x G ⟨a, vh2, ha, ha1, hv, hv1, rfl, rfl⟩
  refine ok_sk (.l (.l (.stop [0, 2, 3]))) (S := .left (decide ((-9223372036854775808 : Int) ≤ vh2 ∧ vh2 ≤ 9223372036854775807)) (.left (decide ((-9223372036854775808 : Int) ≤ vh2 - 1 ∧ vh2 - 1 ≤ 9223372036854775807)) (.stop (Hd.call 31 [.int .i64 2, .ptr 0 0, .ptr 2 0, .ptr 3 0]) [0, 2, 3] ([bk 0 [.data 1 n (by8 y)], bk 2 [.sint .i64 a], bk 3 [.bool true]])))) (by kernel_rfl) ?_
  refine hl (bc fun h3 => by omega) ?_
  refine hl (bc fun h3 => by omega) ?_
  refine hold_stop (fun hd hb => ?_)
  refine tk_call hd (tb2 n y _ hn ?_) hb (by decide) (by decide) (by kernel_rfl) fit1_n ?_
  focus omega
  rintro x G ⟨a, vh3, ha, ha1, hv, hv1, rfl, rfl⟩
  refine ok_sk (.l (.l (.stop [0, 2, 3]))) (S := .left (decide ((-9223372036854775808 : Int) ≤ vh3 ∧ vh3 ≤ 9223372036854775807)) (.left (decide ((-9223372036854775808 : Int) ≤ vh3 - 1 ∧ vh3 - 1 ≤ 9223372036854775807)) (.stop (Hd.call 31 [.int .i64 4, .ptr 0 0, .ptr 2 0, .ptr 3 0]) [0, 2, 3] ([bk 0 [.data 1 n (by8 y)], bk 2 [.sint .i64 a], bk 3 [.bool true]])))) (by kernel_rfl) ?_
  refine hl (bc fun h4 => by omega) ?_
  refine hl (bc fun h4 => by omega) ?_
  refine hold_stop (fun hd hb => ?_)
  refine tk_call hd (tb4 n y _ hn ?_) hb (by decide) (by decide) (by kernel_rfl) fit1_n ?_
  focus omega
  rintro x G ⟨a, vh4, ha, ha1, hv, hv1, rfl, rfl⟩
  refine ok_sk (.l (.l (.stop [0, 2, 3]))) (S := .left (decide ((-9223372036854775808 : Int) ≤ vh4 ∧ vh4 ≤ 9223372036854775807)) (.left (decide ((-9223372036854775808 : Int) ≤ vh4 - 1 ∧ vh4 - 1 ≤ 9223372036854775807)) (.stop (Hd.call 31 [.int .i64 1, .ptr 0 0, .ptr 2 0, .ptr 3 0]) [0, 2, 3] ([bk 0 [.data 1 n (by8 y)], bk 2 [.sint .i64 a], bk 3 [.bool true]])))) (by kernel_rfl) ?_
  refine hl (bc fun h5 => by omega) ?_
  refine hl (bc fun h5 => by omega) ?_
  refine hold_stop (fun hd hb => ?_)
  refine tk_call hd (tb1 n y _ hn ?_) hb (by decide) (by decide) (by kernel_rfl) fit1_n ?_
  focus omega
  rintro x G ⟨a, vh5, ha, ha1, hv, hv1, rfl, rfl⟩
  refine ok_sk (.stop [0, 2, 3]) (S := .stop (Hd.call 31 [.int .i64 8, .ptr 0 0, .ptr 2 0, .ptr 3 0]) [0, 2, 3] ([bk 0 [.data 1 n (by8 y)], bk 2 [.sint .i64 a], bk 3 [.bool true]])) (by kernel_rfl) ?_
  refine hold_stop (fun hd hb => ?_)
  refine tk_call hd (tb8 n y _ hn ?_) hb (by decide) (by decide) (by kernel_rfl) fit1_n ?_
  focus omega
  rintro x G ⟨a, ha, ha1, rfl, rfl⟩
  refine ok_sk (.stop [0, 2, 3]) (S := .stop (Hd.call 31 [.int .i64 2, .ptr 0 0, .ptr 2 0, .ptr 3 0]) [0, 2, 3] ([bk 0 [.data 1 n (by8 y)], bk 2 [.sint .i64 a], bk 3 [.bool true]])) (by kernel_rfl) ?_
  refine hold_stop (fun hd hb => ?_)
  refine tk_call hd (tb2 n y _ hn ?_) hb (by decide) (by decide) (by kernel_rfl) fit1_n ?_
  focus omega
  rintro x G ⟨a, vh7, ha, ha1, hv, hv1, rfl, rfl⟩
  refine ok_sk (.l (.l (.stop [0, 2, 3]))) (S := .left (decide ((-9223372036854775808 : Int) ≤ vh7 ∧ vh7 ≤ 9223372036854775807)) (.left (decide ((-9223372036854775808 : Int) ≤ vh7 - 1 ∧ vh7 - 1 ≤ 9223372036854775807)) (.stop (Hd.call 31 [.int .i64 8, .ptr 0 0, .ptr 2 0, .ptr 3 0]) [0, 2, 3] ([bk 0 [.data 1 n (by8 y)], bk 2 [.sint .i64 a], bk 3 [.bool true]])))) (by kernel_rfl) ?_
  refine hl (bc fun h8 => by omega) ?_
  refine hl (bc fun h8 => by omega) ?_
  refine hold_stop (fun hd hb => ?_)
  refine tk_call hd (tb8 n y _ hn ?_) hb (by decide) (by decide) (by kernel_rfl) fit1_n ?_
  focus omega
  rintro x G ⟨a, ha, ha1, rfl, rfl⟩
  refine ok_sk (.stop [0, 2, 3]) (S := .stop (Hd.call 31 [.int .i64 8, .ptr 0 0, .ptr 2 0, .ptr 3 0]) [0, 2, 3] ([bk 0 [.data 1 n (by8 y)], bk 2 [.sint .i64 a], bk 3 [.bool true]])) (by kernel_rfl) ?_
  refine hold_stop (fun hd hb => ?_)
  refine tk_call hd (tb8 n y _ hn ?_) hb (by decide) (by decide) (by kernel_rfl) fit1_n ?_
  focus omega
  rintro x G ⟨a, ha, ha1, rfl, rfl⟩
  refine ok_sk (.stop [0, 2, 3]) (S := .stop (Hd.call 31 [.int .i64 8, .ptr 0 0, .ptr 2 0, .ptr 3 0]) [0, 2, 3] ([bk 0 [.data 1 n (by8 y)], bk 2 [.sint .i64 a], bk 3 [.bool true]])) (by kernel_rfl) ?_
  refine hold_stop (fun hd hb => ?_)
  refine tk_call hd (tb8 n y _ hn ?_) hb (by decide) (by decide) (by kernel_rfl) fit1_n ?_
  focus omega
  rintro x G ⟨a, ha, ha1, rfl, rfl⟩
  refine ok_sk (.stop [0, 2, 3]) (S := .stop (Hd.call 31 [.int .i64 1, .ptr 0 0, .ptr 2 0, .ptr 3 0]) [0, 2, 3] ([bk 0 [.data 1 n (by8 y)], bk 2 [.sint .i64 a], bk 3 [.bool true]])) (by kernel_rfl) ?_
  refine hold_stop (fun hd hb => ?_)
  refine tk_call hd (tb1 n y _ hn ?_) hb (by decide) (by decide) (by kernel_rfl) fit1_n ?_
  focus omega
  rintro x G ⟨a, vh11, ha, ha1, hv, hv1, rfl, rfl⟩
  refine ok_sk (.stop [0, 1, 2, 3, 4, 8]) (S := .stop (Hd.loop 43 [.data 1 n (by8 y), .ptr 0 0, .ptr 1 0, .int .i64 0, .ptr 2 0, .ptr 3 0, fT, .ptr 4 0, .tuple [], .ptr 4 8, fT, fT, .int .u64 0, .int .u8 0, .ptr 4 0, .ptr 4 1, .ptr 4 9, .ptr 4 8, .slice 8 0 3 3 true, .int .i64 3, .int .i64 3, .bool false, .ptr 8 2, .ptr 4 8, .ptr 4 8, fT, .sint .u64 vh3, .sint .i64 vh3, .sint .i64 (vh3 - 1), .ptr 4 8, .int .i64 3, fT, .sint .u64 vh4, .sint .i64 vh4, .sint .i64 (vh4 - 1), .ptr 4 10, fT, .sint .u64 vh5, .sint .u8 (vh5 % 256), .ptr 4 2, .ptr 4 2, fT, AV.unkI IntKind.u64, .ptr 4 2, .ptr 4 3, fT, .sint .u64 vh7, .sint .i64 vh7, .sint .i64 (vh7 - 1), .ptr 4 2, .ptr 4 4, fT, AV.unkI IntKind.u64, AV.unkI IntKind.i64, AV.unkI IntKind.i64, .ptr 4 2, .ptr 4 5, fT, AV.unkI IntKind.u64, .ptr 4 2, .ptr 4 6, fT, AV.unkI IntKind.u64, .ptr 4 2, .ptr 4 7, fT, .sint .u64 vh11, .int .u64 0, .tuple [], .tuple [], .tuple [], .tuple [], .tuple [], .tuple [], .tuple [], .tuple [], .tuple [], .tuple [], .tuple [], .tuple [], .tuple [], .tuple [], .tuple [], .tuple [], .tuple [], .tuple [], .tuple [], .tuple [], .tuple [], .tuple [], .tuple [], .tuple [], .tuple []]) [0, 1, 2, 3, 4, 8] ([bk 0 [.data 1 n (by8 y)], bk 1 lpZ, bk 2 [.sint .i64 a], bk 3 [.bool true], bk 4 [.int .u8 0, .sint .i64 (vh1 - 1), .sint .u8 (vh5 % 256), AV.unkI IntKind.u64, .sint .i64 (vh7 - 1), AV.unkI IntKind.i64, AV.unkI IntKind.u64, AV.unkI IntKind.u64, .sint .i64 (vh3 - 1), .sint .i64 (vh2 - 1), .sint .i64 (vh4 - 1), .nilSlice], bk 8 [.ptr 4 1, .ptr 4 9, .ptr 4 8]])) (by kernel_rfl) ?_
  refine hold_stop (fun hd hb => ?_)
  refine ok_loop hd (X := BS n y) bT bG bM [some 0, some 1, some 2, some 3, some 4, none] ⟨0, _, _, fun _ => [], ?_, fun j hj => absurd hj (Nat.not_lt_zero j)⟩ (fits6n (look_get hb 0 rfl rfl).1 (look_get hb 1 rfl rfl).1 (look_get hb 2 rfl rfl).1 (look_get hb 3 rfl rfl).1 (look_get hb 4 rfl rfl).1 (by decide) (lpT_fit fit_n fit_i) fit_n (br_fit fit_nil rfl)) ?_
  focus omega
  rintro ⟨i, a0, c, R, k, hr⟩
  refine ok_sk (.both (.stop [0, 2, 3]) (.stop [])) (S := .fork (decide ((↑i : Int) < c)) (.stop (Hd.call 31 [.int .i64 1, .ptr 0 0, .ptr 2 0, .ptr 3 0]) [0, 2, 3] ([bk 0 [.data 1 n (by8 y)], bk 2 [.sint .i64 a0], bk 3 [.bool true]])) (.stop (Hd.leaf (.tuple [.agg lpZ, .int .i64 5])) [] ([]))) (by kernel_rfl) ?_
  refine hold_forkD (fun h13 => ?_) (fun h13 => ?_)
  ·
   refine hold_stop (fun hd hb => ?_)
   have hz := hr
   refine tk_call hd (tb1 n y _ hn ?_) hb (by decide) (by decide) (by kernel_rfl) fit1_n ?_
   focus omega
   rintro x G ⟨a, v, ha, ha1, hv, hv1, rfl, rfl⟩
   clear hz
   refine ok_sk (.l (.l (.l (.l (.l (.l (.l (.l (.l (.l (.l (.l (.stop [0, 1, 2, 3, 4, 5, 9, 10]))))))))))))) (S := .left (decide (i = i)) (.left (decide ((-9223372036854775808 : Int) ≤ v ∧ v ≤ 9223372036854775807)) (.left (decide ((-9223372036854775808 : Int) ≤ v - 1 ∧ v - 1 ≤ 9223372036854775807)) (.left (decide (v - 1 = v - 1)) (.left (decide ((-9223372036854775808 : Int) ≤ v - 1 ∧ v - 1 ≤ 9223372036854775807)) (.left (decide (v - 1 = v - 1)) (.left (decide ((-9223372036854775808 : Int) ≤ v ∧ v ≤ 9223372036854775807)) (.left (decide (v = v)) (.left (decide (i = i)) (.left (@decide (1 < 65536 ∧ RowsOK 1 1 fun (i : Nat) => List.take 1 (List.drop (i * 1) [.sint .i64 (v - 1)])) pd) (.left (decide (i ≤ i ∧ i < 65536)) (.left (decide (0 ≤ (↑i : Int) + 1 ∧ (↑i : Int) + 1 ≤ 18446744073709551615)) (.stop (Hd.again (again' bT bG bM { i := i, a := a0, c := c, R := R, k := k, hr := hr }) [.top, .ptr 0 0, .ptr 1 0, .top, .ptr 2 0, .ptr 3 0, fT, .ptr 4 0, .top, .top, .top, .top, .top, .top, .top, .top, .top, .top, .top, .top, .top, .top, .top, .top, .top, .top, .top, .top, .top, .top, .top, .top, .top, .top, .top, .top, .top, .top, .top, .top, .top, .top, .top, .top, .top, .top, .top, .top, .top, .top, .top, .top, .top, .top, .top, .top, .top, .top, .top, .top, .top, .top, .top, .top, .top, .top, .sint .u64 c, .sint .u64 ((↑i : Int) + 1), .bool true, .ptr 4 11, .gsl 5 i, fT, .sint .u64 v, .sint .i64 v, .sint .i64 (v - 1), .slice 9 0 1 1 true, .gsl 10 (i + 1), .ptr 4 11, .sint .u64 ((↑i : Int) + 1), .top, .top, .top, .top, .top, .top, .top, .top, .top, .top, .top, .top, .top, .top]) [0, 1, 2, 3, 4, 5, 9, 10] ([bk 0 [.data 1 n (by8 y)], bk 1 lpZ, bk 2 [.sint .i64 a], bk 3 [.bool true], bk 4 [.top, .top, .top, .top, .top, .top, .top, .top, .top, .top, .top, .gsl 10 (i + 1)], (some Blk.dead, none), bk 9 [.sint .i64 (v - 1)], (some (Blk.seq 10 1 (i + 1) (glue i R fun (i : Nat) => List.take 1 (List.drop (i * 1) [.sint .i64 (v - 1)]))), some (1, i + 1, glue i R fun (i : Nat) => List.take 1 (List.drop (i * 1) [.sint .i64 (v - 1)])))])))))))))))))) (by kernel_rfl) ?_
   refine hl (bc fun h15 => by omega) ?_
   refine hl (bc fun h15 => by omega) ?_
   refine hl (bc fun h15 => by omega) ?_
   refine hl (bc fun h15 => by omega) ?_
   refine hl (bc fun h15 => by omega) ?_
   refine hl (bc fun h15 => by omega) ?_
   refine hl (bc fun h15 => by omega) ?_
   refine hl (bc fun h15 => by omega) ?_
   refine hl (bc fun h15 => by omega) ?_
   refine hl (bc fun h15 => by exact h15 ⟨by omega, fun j hj => by obtain rfl : j = 0 := (by omega); exact ⟨rfl, rfl⟩⟩) ?_
   refine hl (bc fun h15 => by omega) ?_
   refine hl (bc fun h15 => by omega) ?_
   refine hold_stop (fun hd hb => ?_)
   have hn := fun j hj => (nfs_glue (i := i) (R := R) (g := fun q => List.take 1 (List.drop (q * 1) [AV.sint .i64 (v - 1)])) hr rfl j hj).2
   refine ok_again hd [some 0, some 1, some 2, some 3, some 4, some 10] ⟨i + 1, _, c, _, ?_, hn⟩ ?_ (fits6b (look_get hb 0 rfl rfl).1 (look_get hb 1 rfl rfl).1 (look_get hb 2 rfl rfl).1 (look_get hb 3 rfl rfl).1 (look_get hb 4 rfl rfl).1 (look_get hb 7 rfl rfl).2 (by decide) (lpT_fit fit_n ⟨rfl, rfl⟩) fit_n (fit_g rfl) hn)
   · omega
   · show (c - ((i + 1 : Nat) : Int)).toNat < (c - (i : Int)).toNat
     omega
  refine hold_stop (fun hd hb => ?_)
  exact ok_leaf0 hd rfl (.inr ⟨fun h => by have := h.1; omega, rfl, rfl⟩)
end Go.Proofs.YtkebdfbdneggkaaGreat
