import Derived.Test.YtjihbjjekhncaaaEvP
namespace Go.Proofs.Ytjihbjjekhncaaa
open Go.RowKit
/-! event: Put. -/
/-- the bytes of a vector go behind those that are put: how far it is. -/
structure SP (w0 : World) (g : Nat) (e : Ev) (A : Option Addr) (n c : Nat) (bs vs zs : List UInt8) (b5 b6 b8 : Bool) (t : Array Value) (W : World) : Prop where
  bel : Below g w0 W
  lt : g < W.heap.size
  s0 : b8 = false → Blk W g 82 (wrA e A n c)
  s1 : b6 = false → OwnB W (g + 1) 5 (.slice A n c) bs
  s2 : b5 = true → b6 = false → ∃ A5 n5 c5, t.getD 23 undef = .slice A5 n5 c5 ∧ n5 = vs.length ∧ Bytes W W.heap.size A5 vs
  s3 : b6 = true → b8 = false → ∃ A' n' c', t.getD 24 undef = .slice A' n' c' ∧ n' = zs.length ∧ OwnB W (g + 1) 5 (.slice A' n' c') zs
  s4 : b8 = true → ∃ A' n' c', Blk W g 82 (wrA e A' n' c') ∧ OwnB W (g + 1) 5 (.slice A' n' c') zs ∧ n' = zs.length
section
variable {w0 W W' : World} {g : Nat} {e : Ev} {A : Option Addr} {n c : Nat} {bs vs zs : List UInt8} {b5 b6 b8 : Bool} {a : Act}
theorem SP.first {t : Array Value} (h : WB w0 W g e A n c bs) : SP w0 g e A n c bs vs zs false false false t W.drew :=
  ⟨h.bel.drew, h.blk.lt, fun _ => h.blk.drew, fun _ => h.own, (fun h => by cases h), (fun h => by cases h), (fun h => by cases h)⟩
theorem SP.put {dst : Option Tmp} {v : Value} (h : SP w0 g e A n c bs vs zs b5 b6 b8 a.tmps W) (h1 : dst ≠ some 23) (h2 : dst ≠ some 24) : SP w0 g e A n c bs vs zs b5 b6 b8 (a.put dst v).tmps W :=
  ⟨h.bel, h.lt, h.s0, h.s1, fun x y => by rw [put_getD_far h1]; exact h.s2 x y, fun x y => by rw [put_getD_far h2]; exact h.s3 x y, h.s4⟩
theorem SP.call {A5 : Option Addr} {n5 c5 : Nat} (h : SP w0 g e A n c bs vs zs false false false a.tmps W) (hs : 23 < a.tmps.size) (hb : Below W.heap.size W W') (h5 : n5 = vs.length) (hr : Bytes W' W'.heap.size A5 vs) :
    SP w0 g e A n c bs vs zs true false false (a.put (some 23) (.slice A5 n5 c5)).tmps W' :=
  ⟨h.bel.trans (hb.mono (Nat.le_of_lt h.lt)), Nat.lt_of_lt_of_le h.lt hb.size, fun x => (h.s0 x).below hb h.lt, fun x => own_below (h.s1 x) hb, fun _ _ => ⟨A5, n5, c5, put_getD_at hs, h5, hr⟩, (fun x => by cases x), (fun x => by cases x)⟩
theorem SP.app {v' : Value} (h : SP w0 g e A n c bs vs zs true false false a.tmps W) (hs : 24 < a.tmps.size) (ho : OwnB W' (g + 1) 5 v' zs) (hg : W.grownBy W' (Value.slice A n c).ownBlock) :
    SP w0 g e A n c bs vs zs true true false (a.put (some 24) v').tmps W' := by
  obtain ⟨A', c', rfl, _, _⟩ := ho.open_
  have hown : ∀ q, (Value.slice A n c).ownBlock = some q → g + 1 ≤ q := fun q hq => (World.ownsRow.lt (h.s1 rfl) q hq).1
  have hb : Below (g + 1) W W' := (Below.refl _ _).grown hg h.lt hown
  exact ⟨h.bel.trans (hb.mono (Nat.le_succ g)), Nat.lt_of_lt_of_le h.lt hg.size, fun x => (h.s0 x).below hb (Nat.lt_succ_self g), (fun x => by cases x), (fun _ x => by cases x), fun _ _ => ⟨A', _, c', put_getD_at hs, rfl, ho⟩, (fun x => by cases x)⟩
theorem SP.store (d6 : e.d.length = 6) {A' : Option Addr} {n' c' : Nat} (h : SP w0 g e A n c bs vs zs b5 true false a.tmps W) (ht : a.tmps.getD 24 undef = .slice A' n' c') :
    SP w0 g e A n c bs vs zs b5 true true (a.put none undef).tmps (W.setCell ⟨g, 14, none⟩ (.slice A' n' c')) := by
  obtain ⟨A2, n2, c2, h1, h2, h3⟩ := h.s3 rfl rfl
  rw [ht] at h1
  injection h1 with e1 e2 e3
  subst e1 e2 e3
  refine ⟨h.bel.setCell (p := ⟨g, 14, none⟩) (Nat.le_refl _) _, by simpa using h.lt, (fun x => by cases x), (fun x => by cases x), (fun _ x => by cases x), (fun _ x => by cases x), fun _ => ⟨A', n', c', ?_, own_far h3 (Nat.lt_succ_self g) _, h2⟩⟩
  have := (h.s0 rfl).set_ 14 (.slice A' n' c')
  rwa [wrA_set d6] at this
end
def evB (e : Ev) : List UInt8 := (((((((be 1 e.o.toNat ++ be 8 e.s) ++ bytesV e.d) ++ be 1 e.k) ++ be 8 e.n) ++ be 1 e.t.toNat) ++ be 8 e.a.toNat) ++ be 8 e.r) ++ be 8 e.f
theorem evB_len {e : Ev} (h : e.d.length = 6) : (evB e).length = 91 := by simp [evB, be_len, bytesV_len, h]
theorem le_top1 {n : Nat} (h : n ≤ 255) : n ≤ top 1 := by unfold top; omega
theorem le_top8 {n : Nat} (h : n ≤ 18446744073709551615) : n ≤ top 8 := by unfold top; omega
theorem may_facts {e : Ev} (h : mayE e = true) : (1 ≤ e.o ∧ e.o ≤ 6) ∧ e.k ≤ 7 ∧ (0 ≤ e.t ∧ e.t ≤ 6) ∧ (0 ≤ e.a ∧ e.a ≤ 1125899906842624) ∧ (1 ≤ e.s ∧ e.s < 1099511627776) ∧ (∀ x ∈ e.d, x < 1099511627776) := by
  unfold mayE at h
  simp only [Bool.and_eq_true, decide_eq_true_eq] at h
  obtain ⟨h1, h2, h3, _, h5, h6⟩ := h
  simp only [regE, Bool.and_eq_true, decide_eq_true_eq] at h1
  have hd : ∀ x ∈ e.d, x < 1099511627776 := fun x hx => by
    have := List.all_eq_true.1 h5 x hx
    unfold seqN at this
    exact of_decide_eq_true this
  refine ⟨h1, ?_, ?_, ?_, ⟨h2, h3⟩, hd⟩ <;> unfold mfE at h6
  all_goals
    by_cases k1 : e.k = 1
    · simp [k1, evZ, amtE] at h6; omega
    by_cases k2 : e.k = 2
    · simp [k2, evZ, amtE] at h6; omega
    by_cases k3 : e.k = 3
    · simp [k3, evZ, amtE] at h6; omega
    by_cases k4 : e.k = 4
    · simp [k4, evZ, amtE] at h6; omega
    by_cases k5 : e.k = 5
    · simp [k5, evZ, amtE, othE, regE] at h6; omega
    by_cases k6 : e.k = 6
    · simp [k6, evZ, amtE, othE, regE] at h6; omega
    by_cases k7 : e.k = 7
    · simp [k7, evZ] at h6; omega
    · simp [k1, k2, k3, k4, k5, k6, k7] at h6
attribute [local go_sem ↓] exec_loadE exec_storeE exec_allocE exec_buildE exec_loadV exec_storeW exec_allocW exec_buildW
theorem ex_loadV {a : Act} {W : World} {dst : Option Tmp} {ty : TypeId} {pos : String} {after : Array Edge} {guard : Option (Nat × Bool)} {x : Operand} {b o : Nat} {L : List Nat} (hx : a.eval x = .pointer (some ⟨b, o, none⟩)) (hL : L.length = 6) (h : W.rangeAt b o (vecL L)) :
    (execOp a.eval ⟨dst, .load 24 x, ty, pos, after, guard⟩).run Try.prog W = .ok (.value (.agg (vecA L))) W := by
  rw [exec_loadV, hx]; simp only [Sem.run_bind, run_loadV_mid hL h, Result.andThen_ok, Sem.run_pure]
theorem ex_append {a : Act} {W W' : World} {dst : Option Tmp} {pos : String} {after : Array Edge} {guard : Option (Nat × Bool)} {s x : Operand} {v v' y : Value} (hs : a.eval s = v) (hx : a.eval x = y)
    (hr : (Builtin.append_ #[27, 27] 27 #[v, y]).run Try.prog W = .ok v' W') :
    (execOp a.eval ⟨dst, .call { callee := .builtin .append, args := #[s, x], argTypes := #[27, 27] }, 27, pos, after, guard⟩).run Try.prog W = .ok (.value v') W' := by
  unfold execOp
  simp only [resolve, invoke, builtin, Sem.run_bind, Sem.run_pure, Result.andThen_ok, List.map_toArray, List.map_cons, List.map_nil, hs, hx, hr]
set_option maxRecDepth 100000 in
set_option maxHeartbeats 2000000 in
theorem eput_no (e : Ev) (h : e.ok) (hm : mayE e = false) (w : World) : Calls Try.prog 23 #[.agg (evA e)] w fun x w' => x = .returned (.slice none 0 0) ∧ Below w.heap.size w w' := by
  have P0 := PB.first (w := w) h.d6
  have le := P0.src.load
  have MY := Lib.hid (emay_any e h)
  rw [hm] at MY
  have HP := Lib.hid P0
  clear P0 hm
  go_enter Try.func23, Try.ntmps23
  go_wp2_with fail
  refine (MY.out _).mono ?_
  rintro _ w2 ⟨rfl, hb⟩
  have VF := (HP.out.next hb).bel
  clear hb
  go_wp2_with fail
  go_ret
  exact ⟨rfl, VF⟩
set_option maxRecDepth 100000 in
set_option maxHeartbeats 4000000 in
theorem eput_yes (e : Ev) (h : e.ok) (hm : mayE e = true) (w : World) : Calls Try.prog 23 #[.agg (evA e)] w fun x w' => ∃ A n c, x = .returned (.slice A n c) ∧ n = (evB e).length ∧ OwnB w' w.heap.size 5 (.slice A n c) (evB e) ∧ Below w.heap.size w w' := by
  obtain ⟨⟨o1, o2⟩, k1, ⟨t1, t2⟩, ⟨a1, a2⟩, ⟨s1, s2⟩, _⟩ := may_facts hm
  have P0 := PB.first (w := w) h.d6
  have le := P0.src.load
  have MY := Lib.hid (emay_any e h)
  rw [hm] at MY
  have HP := Lib.hid P0
  have d6 := h.d6
  have aW := run_allocW
  have bW := run_buildW d6
  have zo : IntKind.u64.wrap e.o = e.o := by rw [IntKind.wrap_u64]; omega
  have zt : IntKind.u64.wrap e.t = e.t := by rw [IntKind.wrap_u64]; omega
  have za : IntKind.u64.wrap e.a = e.a := by rw [IntKind.wrap_u64]; omega
  have zk : IntKind.u64.wrap (e.k : Int) = (e.k : Int) := by rw [IntKind.wrap_u64]; omega
  have no : e.o.toNat ≤ 255 := by omega
  have nt : e.t.toNat ≤ 255 := by omega
  have na : e.a.toNat ≤ 18446744073709551615 := by omega
  have nk : e.k ≤ 255 := by omega
  have xo : e.o = ((e.o.toNat : Nat) : Int) := by omega
  have xt : e.t = ((e.t.toNat : Nat) : Int) := by omega
  have xa : e.a = ((e.a.toNat : Nat) : Int) := by omega
  have XO := Lib.hid xo
  have XT := Lib.hid xt
  have XA := Lib.hid xa
  clear xo xt xa
  have ns := h.s
  have nn := h.n
  have nr := h.r
  have nf := h.f
  have BN := Lib.hid (And.intro no (And.intro nt (And.intro na (And.intro nk (And.intro ns (And.intro nn (And.intro nr nf)))))))
  clear P0 hm no nt na nk ns nn nr nf o1 o2 k1 t1 t2 a1 a2 s1 s2
  go_enter Try.func23, Try.ntmps23
  go_wp2_with fail
  refine (MY.out _).mono ?_
  rintro _ w2 ⟨rfl, hb⟩
  have HP2 := Lib.hid (HP.out.next hb)
  have le2 := HP2.out.src.load
  have sW := run_storeW_new d6 w2
  have WB0 : Hid (WB w2 (w2.alloc (.cells (wrA e none 0 0) 82)) w2.heap.size e none 0 0 []) :=
    ⟨Blk.new w2 _ _, OwnB.nil_ _ _ _, rfl, (Below.refl _ _).alloc (Nat.le_refl _) _⟩
  have co := WB0.out.o
  clear hb le HP
  obtain ⟨g, hg⟩ : ∃ g, g = w2.heap.size := ⟨_, rfl⟩
  rw [← hg] at WB0 co sW
  have aW2 := aW w2
  rw [← hg] at aW2
  have hgle : w.heap.size ≤ g := by rw [hg]; exact HP2.out.bel.size
  have HG := Lib.hid hgle
  have BW2 := Lib.hid HP2.out.bel
  clear hg hgle aW
  go_wp2_with fail
  refine (wput_any 1 (.inl rfl) w2 _ g e d6 _ _ _ _ WB0.out _ e.o.toNat XO.out (le_top1 (by have := BN.out; omega)) (by have := BN.out; omega) (by simp [be_len, bytesV_len, d6])).mono ?_
  rintro _ v0 ⟨rfl, A1, m1, c1, hw1⟩
  have WB1 := Lib.hid hw1
  clear hw1 co
  have cs := WB1.out.s
  go_wp2_with fail
  refine (wput_any 8 (.inr (.inr (.inr rfl))) w2 _ g e d6 _ _ _ _ WB1.out _ e.s rfl (le_top8 (by have := BN.out; omega)) (by have := BN.out; omega) (by simp [be_len, bytesV_len, d6])).mono ?_
  rintro _ v1 ⟨rfl, A2, m2, c2, hw2⟩
  have WB2 := Lib.hid hw2
  clear hw2 cs
  have WBH := WB2
  obtain ⟨bs, hbs⟩ : ∃ bs, Hid (([] ++ be 1 e.o.toNat) ++ be 8 e.s = bs) := ⟨_, Lib.hid rfl⟩
  rw [hbs.out] at WBH
  have hbl : bs.length ≤ 60 := by rw [← hbs.out]; simp [be_len]
  generalize A2 = A at *
  generalize m2 = n at *
  generalize c2 = c at *
  have WQ := WBH.out
  clear WB0 WB1 WB2
  go_wp2_with fail
  refine wp_region_cy (fun ℓ t W => SP w2 g e A n c bs (bytesV e.d) (bs ++ bytesV e.d) (ℓ 5) (ℓ 6) (ℓ 8) t W) (fun _ _ => True) [IsV (.pointer (some ⟨g, 14, none⟩)), IsV (.slice A n c), IsV (.pointer (some ⟨g, 0, none⟩)), IsV (.pointer (some ⟨g, 2, none⟩)), IsV (.agg (vecA e.d)), fun _ _ => True, fun _ _ => True, IsV (.pointer (some ⟨g, 14, none⟩)), fun _ _ => True] ([(3, .pointer (some ⟨g, 0, none⟩))] : List (Nat × Value)) (⟨rfl, trivial⟩) (n := 55) (by kernel_rfl) rfl (by kernel_rfl) (SP.first WBH.out) (fun _ => trivial) (StabBy.get ?_) ?_ ?_
  · repeat (first | exact trivial | refine ⟨fun _ _ _ _ h => h, ?_⟩)
  · refine ⟨?_, ⟨?_, ⟨?_, ⟨?_, ⟨?_, ⟨?_, ⟨?_, ⟨?_, ⟨?_, trivial⟩⟩⟩⟩⟩⟩⟩⟩⟩
    · intro a W ℓ hZ hl hB hS hE hN hD
      obtain ⟨x3, _⟩ := hE
      have e3 := x3 (by kernel_rfl)
      refine plan_free rfl ?_
      have k3 := e3
      refine plan_value (v := .pointer (some ⟨g, 14, none⟩)) (w' := W) (by go_simp) ⟨_, rfl, (SP.put hS (by simp) (by simp)), trivial, rfl⟩
    · intro a W ℓ hZ hl hB hS hE hN hD
      have k18 : a.tmps.getD 18 undef = .pointer (some ⟨g, 14, none⟩) := hD 0 18 (by kernel_rfl)
      refine plan_free rfl ?_
      have h8 := hB 8 (by kernel_rfl)
      have cc := (hS.s0 h8).cell 14
      rw [wrA_at d6] at cc
      refine plan_value (v := .slice A n c) (w' := W) (by go_simp) ⟨_, rfl, (SP.put hS (by simp) (by simp)), trivial, rfl⟩
    · intro a W ℓ hZ hl hB hS hE hN hD
      obtain ⟨x3, _⟩ := hE
      have e3 := x3 (by kernel_rfl)
      refine plan_free rfl ?_
      have k3 := e3
      refine plan_value (v := .pointer (some ⟨g, 0, none⟩)) (w' := W) (by go_simp) ⟨_, rfl, (SP.put hS (by simp) (by simp)), trivial, rfl⟩
    · intro a W ℓ hZ hl hB hS hE hN hD
      have k20 : a.tmps.getD 20 undef = .pointer (some ⟨g, 0, none⟩) := hD 2 20 (by kernel_rfl)
      refine plan_free rfl ?_
      refine plan_value (v := .pointer (some ⟨g, 2, none⟩)) (w' := W) (by go_simp) ⟨_, rfl, (SP.put hS (by simp) (by simp)), trivial, rfl⟩
    · intro a W ℓ hZ hl hB hS hE hN hD
      have k21 : a.tmps.getD 21 undef = .pointer (some ⟨g, 2, none⟩) := hD 3 21 (by kernel_rfl)
      refine plan_free rfl ?_
      have h8 := hB 8 (by kernel_rfl)
      refine plan_value (ex_loadV k21 d6 (rg_dl (wr_rg (hS.s0 h8)))) ⟨_, rfl, (SP.put hS (by simp) (by simp)), trivial, rfl⟩
    · intro a W ℓ hZ hl hB hS hE hN hD
      have k22 : a.tmps.getD 22 undef = .agg (vecA e.d) := hD 4 22 (by kernel_rfl)
      refine plan_free rfl ?_
      have h6 := hB 6 (by kernel_rfl)
      have h8 := hB 8 (by kernel_rfl)
      have h0 : SP w2 g e A n c bs (bytesV e.d) (bs ++ bytesV e.d) false false false a.tmps W := by
        have h := hS
        simp only [hl, h6, h8] at h
        exact h
      refine plan_call (f := 63) (args := #[a.tmps.getD 22 undef]) (by kernel_rfl) ?_
      rw [k22]
      refine (vbytes_any e.d d6 W).mono ?_
      rintro _ W2 ⟨A5, n5, c5, rfl, hn5, ho5, hb5⟩
      refine ⟨_, rfl, _, rfl, ?_, trivial, trivial⟩
      show SP w2 g e A n c bs (bytesV e.d) (bs ++ bytesV e.d) true (ℓ 6) (ℓ 8) _ _
      rw [h6, h8]
      exact SP.call h0 (by rw [hZ]; omega) hb5 hn5 (own_bytes' ho5)
    · intro a W ℓ hZ hl hB hS hE hN hD
      have k19 : a.tmps.getD 19 undef = .slice A n c := hD 1 19 (by kernel_rfl)
      refine plan_free rfl ?_
      have h5 := hN 5 23 (by kernel_rfl)
      have h8 := hB 8 (by kernel_rfl)
      have h0 : SP w2 g e A n c bs (bytesV e.d) (bs ++ bytesV e.d) true false false a.tmps W := by
        have h := hS
        simp only [hl, h5, h8] at h
        exact h
      obtain ⟨A5, n5, c5, hg5, hn5, hb5⟩ := h0.s2 rfl rfl
      subst hn5
      obtain ⟨v9, W9, hr9, ho9, hg9, _⟩ := app_any W (g + 1) (.slice A n c) bs (bytesV e.d) (h0.s1 rfl) _ A5 c5 hb5 (by rw [bytesV_len, d6]; omega) h0.lt
      refine plan_value (ex_append k19 hg5 hr9) ⟨_, rfl, ?_, trivial, trivial⟩
      show SP w2 g e A n c bs (bytesV e.d) (bs ++ bytesV e.d) (ℓ 5) true (ℓ 8) _ _
      rw [h5, h8]
      exact SP.app h0 (by rw [hZ]; omega) ho9 hg9
    · intro a W ℓ hZ hl hB hS hE hN hD
      obtain ⟨x3, _⟩ := hE
      have e3 := x3 (by kernel_rfl)
      refine plan_free rfl ?_
      have k3 := e3
      refine plan_value (v := .pointer (some ⟨g, 14, none⟩)) (w' := W) (by go_simp) ⟨_, rfl, (SP.put hS (by simp) (by simp)), trivial, rfl⟩
    · intro a W ℓ hZ hl hB hS hE hN hD
      have k25 : a.tmps.getD 25 undef = .pointer (some ⟨g, 14, none⟩) := hD 7 25 (by kernel_rfl)
      refine plan_free rfl ?_
      have h6 := hN 6 24 (by kernel_rfl)
      have h0 : SP w2 g e A n c bs (bytesV e.d) (bs ++ bytesV e.d) (ℓ 5) true false a.tmps W := by
        have h := hS
        simp only [hl, h6] at h
        exact h
      obtain ⟨A9, n9, c9, hg9, _, _⟩ := h0.s3 rfl rfl
      have cc := (h0.s0 rfl).cell 14
      rw [wrA_at d6] at cc
      have ff := (h0.s0 rfl).frozen 14
      refine plan_unit (w' := W.setCell ⟨g, 14, none⟩ (.slice A9 n9 c9)) (by go_simp) ⟨_, rfl, ?_, trivial, trivial⟩
      show SP w2 g e A n c bs (bytesV e.d) (bs ++ bytesV e.d) (ℓ 5) (ℓ 6) true _ _
      rw [h6]
      exact SP.store d6 h0 hg9
  · intro f w6 ℓ hl V hE
    clear hE
    simp only [setAll, List.setIfInBounds_toArray, List.set_cons_zero, List.set_cons_succ]
    obtain ⟨A3, m3, c3, hk3, ho3, hn3⟩ := V.s4 (hl 8 (by simp))
    have WB3 : Hid (WB w2 w6 g e A3 m3 c3 (bs ++ bytesV e.d)) := ⟨hk3, ho3, hn3, V.bel⟩
    clear V hk3 ho3 hn3 hl WBH WQ
    have ck := rg_k (wr_rg WB3.out.blk) d6
    simp only [Nat.zero_add] at ck
    go_wp2_with fail
    refine (wput_any 1 (.inl rfl) w2 _ g e d6 _ _ _ _ WB3.out _ e.k rfl (le_top1 (by have := BN.out; omega)) (by have := BN.out; omega) (by simp only [List.length_append, be_len, bytesV_len, d6]; omega)).mono ?_
    rintro _ v3 ⟨rfl, A4, m4, c4, hw4⟩
    have WB4 := Lib.hid hw4
    clear hw4 ck
    have cn := rg_n (wr_rg WB4.out.blk) d6
    simp only [Nat.zero_add] at cn
    go_wp2_with fail
    refine (wput_any 8 (.inr (.inr (.inr rfl))) w2 _ g e d6 _ _ _ _ WB4.out _ e.n rfl (le_top8 (by have := BN.out; omega)) (by have := BN.out; omega) (by simp only [List.length_append, be_len, bytesV_len, d6]; omega)).mono ?_
    rintro _ v4 ⟨rfl, A5, m5, c5, hw5⟩
    have WB5 := Lib.hid hw5
    clear hw5 cn
    have ct := rg_t (wr_rg WB5.out.blk) d6
    simp only [Nat.zero_add] at ct
    go_wp2_with fail
    refine (wput_any 1 (.inl rfl) w2 _ g e d6 _ _ _ _ WB5.out _ e.t.toNat XT.out (le_top1 (by have := BN.out; omega)) (by have := BN.out; omega) (by simp only [List.length_append, be_len, bytesV_len, d6]; omega)).mono ?_
    rintro _ v5 ⟨rfl, A6, m6, c6, hw6⟩
    have WB6 := Lib.hid hw6
    clear hw6 ct
    have ca := rg_a (wr_rg WB6.out.blk) d6
    simp only [Nat.zero_add] at ca
    go_wp2_with fail
    refine (wput_any 8 (.inr (.inr (.inr rfl))) w2 _ g e d6 _ _ _ _ WB6.out _ e.a.toNat XA.out (le_top8 (by have := BN.out; omega)) (by have := BN.out; omega) (by simp only [List.length_append, be_len, bytesV_len, d6]; omega)).mono ?_
    rintro _ v6 ⟨rfl, A7, m7, c7, hw7⟩
    have WB7 := Lib.hid hw7
    clear hw7 ca
    have cr := rg_r (wr_rg WB7.out.blk) d6
    simp only [Nat.zero_add] at cr
    go_wp2_with fail
    refine (wput_any 8 (.inr (.inr (.inr rfl))) w2 _ g e d6 _ _ _ _ WB7.out _ e.r rfl (le_top8 (by have := BN.out; omega)) (by have := BN.out; omega) (by simp only [List.length_append, be_len, bytesV_len, d6]; omega)).mono ?_
    rintro _ v7 ⟨rfl, A8, m8, c8, hw8⟩
    have WB8 := Lib.hid hw8
    clear hw8 cr
    have cf := rg_f (wr_rg WB8.out.blk) d6
    simp only [Nat.zero_add] at cf
    go_wp2_with fail
    refine (wput_any 8 (.inr (.inr (.inr rfl))) w2 _ g e d6 _ _ _ _ WB8.out _ e.f rfl (le_top8 (by have := BN.out; omega)) (by have := BN.out; omega) (by simp only [List.length_append, be_len, bytesV_len, d6]; omega)).mono ?_
    rintro _ v8 ⟨rfl, A9, m9, c9, hw9⟩
    have WB9 := Lib.hid hw9
    clear hw9 cf
    have c14 := WB9.out.blk.cell 14
    rw [wrA_at d6] at c14
    go_wp2_with fail
    go_ret
    have hz : (((((((bs ++ bytesV e.d) ++ be 1 e.k) ++ be 8 e.n) ++ be 1 e.t.toNat) ++ be 8 e.a.toNat) ++ be 8 e.r) ++ be 8 e.f) = evB e := by rw [← hbs.out]; simp [evB]
    have W9 := WB9.out
    rw [hz] at W9
    exact ⟨A9, m9, c9, rfl, W9.len, own_base W9.own (by have := HG.out; omega), BW2.out.trans (W9.bel.mono HG.out)⟩
theorem eput_any (e : Ev) (h : e.ok) (w : World) : Calls Try.prog 23 #[.agg (evA e)] w fun x w' => ∃ A n c, x = .returned (.slice A n c) ∧ n = (if mayE e = true then evB e else []).length ∧ OwnB w' w.heap.size 5 (.slice A n c) (if mayE e = true then evB e else []) ∧ Below w.heap.size w w' := by
  cases hm : mayE e
  · refine (eput_no e h hm w).mono ?_
    rintro _ w' ⟨rfl, hb⟩
    exact ⟨none, 0, 0, rfl, rfl, OwnB.nil_ _ _ _, hb⟩
  · simpa using eput_yes e h hm w
end Go.Proofs.Ytjihbjjekhncaaa
