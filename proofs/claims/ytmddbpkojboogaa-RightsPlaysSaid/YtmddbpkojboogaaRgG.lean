import Derived.Test.YtmddbpkojboogaaRgF
import Derived.Test.YtmddbpkojboogaaPlanB
namespace Go.Proofs.Ytmddbpkojboogaa
open Go.RowKit
/-! rights: what is turned. -/
attribute [local go_sem ↓] exec_loadR exec_storeR
/-- rights in the block γ, numbers in blocks of their own. -/
structure TW (W0 W : World) (γ : Nat) (l : List (Nat × Int)) (L : List Int) : Prop where
  rb : RB W γ L
  cells : ∀ p ∈ l, W.cell? ⟨p.1, 0, none⟩ = some (.int .i64 p.2) ∧ p.1 < W.heap.size ∧ γ ≠ p.1
  bel : Below γ W0 W
  keep : ∀ g, g ≠ γ → g < W0.heap.size → W.heap[g]? = W0.heap[g]?
section
variable {W0 W W' : World} {γ : Nat} {l : List (Nat × Int)} {L : List Int}
theorem TW.next (h : TW W0 W γ l L) (hb : Below W.heap.size W W') : TW W0 W' γ l L :=
  ⟨h.rb.after hb, fun p hp => have ⟨a, b, c⟩ := h.cells p hp; ⟨(hb.cell (p := ⟨p.1, 0, none⟩) b).trans a, Nat.lt_of_lt_of_le b hb.size, c⟩, h.bel.trans (hb.mono (Nat.le_of_lt h.rb.blk.lt)), fun g hg hl => (hb.block g (Nat.lt_of_lt_of_le hl h.bel.size)).trans (h.keep g hg hl)⟩
theorem TW.drew (h : TW W0 W γ l L) : TW W0 W.drew γ l L := ⟨h.rb.drew, h.cells, h.bel.drew, h.keep⟩
theorem TW.drewN (h : TW W0 W γ l L) (n : Nat) : TW W0 (W.drewN n) γ l L := ⟨h.rb.drewN n, h.cells, Below.drewM h.bel n, h.keep⟩
theorem TW.put (h : TW W0 W γ l L) (k : Nat) (y : Int) : TW W0 (W.setCell ⟨γ, k, none⟩ (.int .i64 y)) γ l (L.set k y) :=
  ⟨h.rb.put k y, fun p hp => have ⟨a, b, c⟩ := h.cells p hp; ⟨(World.cell?_setCell_far W ⟨γ, k, none⟩ ⟨p.1, 0, none⟩ _ c).trans a, by simpa using b, c⟩, h.bel.setCell (by simp) _, fun g hg hl => (Below.heap_setCell W ⟨γ, k, none⟩ _ g hg).trans (h.keep g hg hl)⟩
theorem TW.at_ (h : TW W0 W γ l L) (j : Nat) {g : Nat} {x : Int} (hj : l[j]? = some (g, x)) : W.cell? ⟨g, 0, none⟩ = some (.int .i64 x) := (h.cells _ (List.mem_of_getElem? hj)).1
end
def takeE (L : List Int) (k : Nat) (x : Int) : List Int × Int :=
  if x ≤ leftR L k then if cR L k + x ≤ 1125899906842624 then (L.set (6 + k) (cR L k + x), 0) else (L, 6) else (L, 11)
def freeE (L : List Int) (k : Nat) (x : Int) : List Int × Int := if x ≤ cR L k - fR L k then (L.set (12 + k) (fR L k + x), 0) else (L, 12)
def moveE (L : List Int) (k q : Nat) (x : Int) : List Int × Int :=
  if k = q then (L, 1) else if x ≤ leftR L k then if rR L k q + x ≤ 1125899906842624 then (L.set (18 + k * 6 + q) (rR L k q + x), 0) else (L, 6) else (L, 11)
def giveE (L : List Int) (k : Nat) (x : Int) : List Int × Int := if limitR L + x ≤ 1125899906842624 then (L.set k (gR L k + x), 0) else (L, 6)
theorem TW.far {W0 W : World} {γ g : Nat} {l : List (Nat × Int)} {L : List Int} (h : TW W0 W γ l L) (hg : γ < g) (hl : ∀ p ∈ l, g ≠ p.1) (h0 : W0.heap.size ≤ g) (u : Value) : TW W0 (W.setCell ⟨g, 0, none⟩ u) γ l L :=
  ⟨h.rb.far (by simp; omega) u, fun p hp => have ⟨a, b, c⟩ := h.cells p hp; ⟨(World.cell?_setCell_far W ⟨g, 0, none⟩ ⟨p.1, 0, none⟩ _ (hl p hp)).trans a, by simpa using b, c⟩, h.bel.setCell (by simp; omega) _, fun g' hg' hl' => (Below.heap_setCell W ⟨g, 0, none⟩ _ g' (by show g' ≠ g; omega)).trans (h.keep g' hg' hl')⟩
theorem TW.alloc {W0 W : World} {γ : Nat} {l : List (Nat × Int)} {L : List Int} (h : TW W0 W γ l L) (o : Obj) : TW W0 (W.alloc o) γ l L := h.next ((Below.refl _ _).alloc (Nat.le_refl _) o)
theorem TW.after {W0 W W' : World} {γ : Nat} {l : List (Nat × Int)} {L : List Int} (h : TW W0 W γ l L) (hb : Below W.heap.size W W') : ∀ p ∈ l, W'.heap.size ≠ p.1 := fun p hp => by
  have := (h.cells p hp).2.1
  have := hb.size
  omega
theorem sum_ge {L : List Int} (h : Amt L) (k : Nat) (hk : k < 6) : gR L k ≤ limitR L := by
  have h0 := h.g 0 (by omega); have h1 := h.g 1 (by omega); have h2 := h.g 2 (by omega); have h3 := h.g 3 (by omega); have h4 := h.g 4 (by omega); have h5 := h.g 5 (by omega)
  simp only [limitR, sumTo]
  match k, hk with
  | 0, _ | 1, _ | 2, _ | 3, _ | 4, _ | 5, _ => omega
theorem ex_loadR {a : Act} {W : World} {dst : Option Tmp} {ty : TypeId} {pos : String} {after : Array Edge} {guard : Option (Nat × Bool)} {x : Operand} {g : Nat} {L : List Int} (hx : a.eval x = .pointer (some ⟨g, 0, none⟩)) (h : RB W g L) :
    (execOp a.eval ⟨dst, .load 42 x, ty, pos, after, guard⟩).run Try.prog W = .ok (.value (.agg (rgtA L))) W := by
  rw [exec_loadR, hx]; simp only [Sem.run_bind, run_loadR h, Result.andThen_ok, Sem.run_pure]
theorem ex_call77 {a : Act} {W : World} {dst : Option Tmp} {ty : TypeId} {pos : String} {after : Array Edge} {guard : Option (Nat × Bool)} {i j : Nat} {p q : Value} {ts : Array TypeId} (hx : a.tmps.getD i undef = .func (.func 60) #[] #[q]) (hy : a.tmps.getD j undef = p) :
    (execOp a.eval ⟨dst, .call { callee := .value (.tmp i), args := #[.tmp j], argTypes := ts }, ty, pos, after, guard⟩).run Try.prog W = .ok (.enter 60 #[p, q]) W := by
  have h1 : a.eval (.tmp i) = .func (.func 60) #[] #[q] := hx
  have h2 : a.eval (.tmp j) = p := hy
  unfold execOp
  simp only [resolve, Sem.run_bind, Sem.run_pure, Result.andThen_ok, List.map_toArray, List.map_cons, List.map_nil, h1, h2]
  go_simp
set_option maxHeartbeats 2000000
set_option maxRecDepth 100000

theorem takeC (L : List Int) (hm : mayR L = true) (k : Nat) (hk : k < 6) (x : Int) (hx1 : 1 ≤ x) (hx2 : x ≤ 1125899906842624) (γ gy gx gi : Nat) (W0 W : World) (t : TW W0 W γ [(gy, x), (gx, x), (gi, (k : Int) + 1)] L) :
    Calls Try.prog 56 #[.pointer (some ⟨γ, 0, none⟩), .func (.func 60) #[] #[.pointer (some ⟨gy, 0, none⟩)], .pointer (some ⟨gx, 0, none⟩), .pointer (some ⟨gi, 0, none⟩)] W
      fun e w' => e = .returned (.int .i64 (takeE L k x).2) ∧ TW W0 w' γ [(gy, x), (gx, x), (gi, (k : Int) + 1)] (takeE L k x).1 := by
  have AM := Lib.hid (amt_may hm)
  have H54 := Lib.hid t.rb.len
  have hk0 : (0 : Int) ≤ (k : Int) := by omega
  have hk6 : (k : Int) < 6 := by omega
  have kw : IntKind.i64.wrap (k : Int) = (k : Int) := IntWalk.i64_in _ (by omega)
  clear hm
  by_cases h1 : x ≤ leftR L k
  · have hg : ¬ leftR L k < x := by omega
    by_cases h2 : cR L k + x ≤ 1125899906842624
    · have EV : Hid (takeE L k x = (L.set (6 + k) (cR L k + x), 0)) := by show _ = _; unfold takeE; rw [if_pos h1, if_pos h2]
      have HN := Lib.hid (AM.out.c k hk).1
      have HYES : Hid (cR L k ≤ 1125899906842624 - x) := by show _ ≤ _; omega
      clear h1 h2
      go_enter Try.func56, Try.ntmps56
      go_wp2_with fail
      refine wp_region_plan (fun W => TW W0 W γ [(gy, x), (gx, x), (gi, (k : Int) + 1)] L) Grows [IsV (.int .i64 (x)), IsV (.pointer (some ⟨γ, 0, none⟩)), IsV (.pointer (some ⟨γ, 0, none⟩)), IsV (.agg (rgtA L)), IsV (.int .i64 ((k : Int) + 1)), IsV (.int .i64 ((k : Int))), IsV (.int .i64 (leftR L k)), IsV (.bool false)] ([(0, .pointer (some ⟨γ, 0, none⟩)), (1, .func (.func 60) #[] #[.pointer (some ⟨gy, 0, none⟩)]), (2, .pointer (some ⟨gx, 0, none⟩)), (3, .pointer (some ⟨gi, 0, none⟩))] : List (Nat × Value)) (⟨rfl, rfl, rfl, rfl, trivial⟩) (n := 24) (by kernel_rfl) rfl (by kernel_rfl) t.drew Grows.refl (StabAll.get ?_) ?_ ?_
      · repeat (first | exact trivial | refine ⟨stab_c _, ?_⟩ | refine ⟨stab_two _ _, ?_⟩ | refine ⟨fun _ _ _ _ _ _ _ => trivial, ?_⟩)
      · refine ⟨?_, ⟨?_, ⟨?_, ⟨?_, ⟨?_, ⟨?_, ⟨?_, ⟨?_, trivial⟩⟩⟩⟩⟩⟩⟩⟩
        · intro a W hS hE hD
          obtain ⟨_, _, x2, _, _⟩ := hE
          have e2 := x2 (by kernel_rfl)
          refine plan_free rfl ?_
          have k2 := e2
          have hc := TW.at_ hS 1 rfl
          refine plan_value (v := .int .i64 (x)) (w' := W) (by go_simp) ⟨_, rfl, hS, Grows.refl _, rfl⟩
        · intro a W hS hE hD
          obtain ⟨x0, _, _, _, _⟩ := hE
          have e0 := x0 (by kernel_rfl)
          refine plan_free rfl ?_
          refine plan_value ex_move ⟨_, rfl, hS, Grows.refl _, ?_⟩
          exact e0
        · intro a W hS hE hD
          have k8 : a.tmps.getD 8 undef = .pointer (some ⟨γ, 0, none⟩) := hD 1 8 (by kernel_rfl)
          refine plan_free rfl ?_
          refine plan_value (v := .pointer (some ⟨γ, 0, none⟩)) (w' := W) (by go_simp) ⟨_, rfl, hS, Grows.refl _, rfl⟩
        · intro a W hS hE hD
          have k9 : a.tmps.getD 9 undef = .pointer (some ⟨γ, 0, none⟩) := hD 2 9 (by kernel_rfl)
          refine plan_free rfl ?_
          refine plan_value (ex_loadR k9 hS.rb) ⟨_, rfl, hS, Grows.refl _, rfl⟩
        · intro a W hS hE hD
          obtain ⟨_, _, _, x3, _⟩ := hE
          have e3 := x3 (by kernel_rfl)
          refine plan_free rfl ?_
          have k3 := e3
          have hc := TW.at_ hS 2 rfl
          refine plan_value (v := .int .i64 ((k : Int) + 1)) (w' := W) (by go_simp) ⟨_, rfl, hS, Grows.refl _, rfl⟩
        · intro a W hS hE hD
          have k11 : a.tmps.getD 11 undef = .int .i64 ((k : Int) + 1) := hD 4 11 (by kernel_rfl)
          refine plan_free rfl ?_
          refine plan_value (v := .int .i64 ((k : Int))) (w' := W) (by go_simp) ⟨_, rfl, hS, Grows.refl _, rfl⟩
        · intro a W hS hE hD
          have k10 : a.tmps.getD 10 undef = .agg (rgtA L) := hD 3 10 (by kernel_rfl)
          have k12 : a.tmps.getD 12 undef = .int .i64 ((k : Int)) := hD 5 12 (by kernel_rfl)
          refine plan_free rfl ?_
          refine plan_call (f := 44) (args := #[a.tmps.getD 10 undef, a.tmps.getD 12 undef]) (by kernel_rfl) ?_
          rw [k10, k12]
          refine (left_any L H54.out AM.out k hk W).mono ?_
          rintro e W2 ⟨rfl, hb⟩
          refine ⟨_, rfl, _, rfl, hS.next hb, hb, ?_⟩
          exact rfl
        · intro a W hS hE hD
          have k7 : a.tmps.getD 7 undef = .int .i64 (x) := hD 0 7 (by kernel_rfl)
          have k13 : a.tmps.getD 13 undef = .int .i64 (leftR L k) := hD 6 13 (by kernel_rfl)
          refine plan_free rfl ?_
          refine plan_value (v := .bool false) (w' := W) (by go_simp) ⟨_, rfl, hS, Grows.refl _, rfl⟩
      · intro f w2 V2 hE
        have f14 : f 14 = .bool false := Ends.get hE 7 _ rfl 14 rfl
        clear hE
        simp only [setAll, List.setIfInBounds_toArray, List.set_cons_zero, List.set_cons_succ]
        rw [f14]; clear f14
        clear t
        clear hg
        go_wp2_with fail
        refine wp_region_by (fun ℓ W => TW W0 W γ [(gy, x), (gx, x), (gi, (k : Int) + 1)] (cond (ℓ 7) (L.set (6 + k) (cR L k + x)) L)) (fun _ _ => True) [IsV (.func (.func 60) #[] #[.pointer (some ⟨gy, 0, none⟩)]), IsV (.pointer (some ⟨γ, 0, none⟩)), IsV (.int .i64 ((k : Int) + 1)), IsV (.int .i64 ((k : Int))), IsV (.pointer (some ⟨γ, 0, none⟩)), IsV (.pointer (some ⟨γ, 6, none⟩)), IsV (.pointer (some ⟨γ, 6 + k, none⟩)), IsV (.bool true), IsV (.bool false)] ([(0, .pointer (some ⟨γ, 0, none⟩)), (1, .func (.func 60) #[] #[.pointer (some ⟨gy, 0, none⟩)]), (3, .pointer (some ⟨gi, 0, none⟩))] : List (Nat × Value)) (⟨rfl, rfl, rfl, trivial⟩) (n := 24) (by kernel_rfl) rfl (by kernel_rfl) V2.drew (fun _ => trivial) (StabBy.get ?_) ?_ ?_
        · repeat (first | exact trivial | refine ⟨fun _ _ _ _ h => h, ?_⟩)
        · refine ⟨?_, ⟨?_, ⟨?_, ⟨?_, ⟨?_, ⟨?_, ⟨?_, ⟨?_, ⟨?_, trivial⟩⟩⟩⟩⟩⟩⟩⟩⟩
          · intro a W ℓ hl hB hS hE hN hD
            obtain ⟨_, x1, _, _⟩ := hE
            have e1 := x1 (by kernel_rfl)
            refine plan_free rfl ?_
            refine plan_value ex_move ⟨_, rfl, hS, trivial, ?_⟩
            exact e1
          · intro a W ℓ hl hB hS hE hN hD
            obtain ⟨x0, _, _, _⟩ := hE
            have e0 := x0 (by kernel_rfl)
            refine plan_free rfl ?_
            refine plan_value ex_move ⟨_, rfl, hS, trivial, ?_⟩
            exact e0
          · intro a W ℓ hl hB hS hE hN hD
            obtain ⟨_, _, x3, _⟩ := hE
            have e3 := x3 (by kernel_rfl)
            refine plan_free rfl ?_
            have k3 := e3
            have hc := TW.at_ hS 2 rfl
            refine plan_value (v := .int .i64 ((k : Int) + 1)) (w' := W) (by go_simp) ⟨_, rfl, hS, trivial, rfl⟩
          · intro a W ℓ hl hB hS hE hN hD
            have k17 : a.tmps.getD 17 undef = .int .i64 ((k : Int) + 1) := hD 2 17 (by kernel_rfl)
            refine plan_free rfl ?_
            refine plan_value (v := .int .i64 ((k : Int))) (w' := W) (by go_simp) ⟨_, rfl, hS, trivial, rfl⟩
          · intro a W ℓ hl hB hS hE hN hD
            have k16 : a.tmps.getD 16 undef = .pointer (some ⟨γ, 0, none⟩) := hD 1 16 (by kernel_rfl)
            refine plan_free rfl ?_
            refine plan_value (v := .pointer (some ⟨γ, 0, none⟩)) (w' := W) (by go_simp) ⟨_, rfl, hS, trivial, rfl⟩
          · intro a W ℓ hl hB hS hE hN hD
            have k19 : a.tmps.getD 19 undef = .pointer (some ⟨γ, 0, none⟩) := hD 4 19 (by kernel_rfl)
            refine plan_free rfl ?_
            refine plan_value (v := .pointer (some ⟨γ, 6, none⟩)) (w' := W) (by go_simp) ⟨_, rfl, hS, trivial, rfl⟩
          · intro a W ℓ hl hB hS hE hN hD
            have k20 : a.tmps.getD 20 undef = .pointer (some ⟨γ, 6, none⟩) := hD 5 20 (by kernel_rfl)
            have k18 : a.tmps.getD 18 undef = .int .i64 ((k : Int)) := hD 3 18 (by kernel_rfl)
            refine plan_free rfl ?_
            refine plan_value (v := .pointer (some ⟨γ, 6 + k, none⟩)) (w' := W) (by go_simp) ⟨_, rfl, hS, trivial, rfl⟩
          · intro a W ℓ hl hB hS hE hN hD
            have k15 : a.tmps.getD 15 undef = .func (.func 60) #[] #[.pointer (some ⟨gy, 0, none⟩)] := hD 0 15 (by kernel_rfl)
            have k21 : a.tmps.getD 21 undef = .pointer (some ⟨γ, 6 + k, none⟩) := hD 6 21 (by kernel_rfl)
            refine plan_free rfl ?_
            have h0 : TW W0 W γ [(gy, x), (gx, x), (gi, (k : Int) + 1)] L := by
              have h := hS
              simp only [hl, cond_false] at h
              exact h
            refine plan_call (f := 60) (args := #[.pointer (some ⟨γ, 6 + k, none⟩), .pointer (some ⟨gy, 0, none⟩)]) (ex_call77 k15 k21) ?_
            refine (add_yes γ (6 + k) gy (cR L k) x W (h0.rb.c k hk) (h0.rb.blk.frozen _) (h0.at_ 0 rfl) HN.out hx1 hx2 (Int.not_lt.2 HYES.out)).mono ?_
            rintro e W2 ⟨rfl, m, rfl⟩
            exact ⟨_, rfl, _, rfl, (h0.put (6 + k) _).drewN m, trivial, rfl⟩
          · intro a W ℓ hl hB hS hE hN hD
            have k22 : a.tmps.getD 22 undef = .bool true := hD 7 22 (by kernel_rfl)
            refine plan_free rfl ?_
            refine plan_value (v := .bool false) (w' := W) (by go_simp) ⟨_, rfl, hS, trivial, rfl⟩
        · intro f w3 ℓ hl V3 hE
          have f23 : f 23 = .bool false := Ends.get hE 8 _ rfl 23 rfl
          clear hE
          simp only [setAll, List.setIfInBounds_toArray, List.set_cons_zero, List.set_cons_succ]
          rw [f23]; clear f23
          have V4 : TW W0 w3 γ [(gy, x), (gx, x), (gi, (k : Int) + 1)] (L.set (6 + k) (cR L k + x)) := by
            have h := V3
            simp only [hl 7 (by simp), cond_true] at h
            exact h
          clear V2 V3
          go_wp2_with fail
          go_ret
          exact ⟨by rw [EV.out]; rfl, by rw [EV.out]; exact V4⟩
    · have EV : Hid (takeE L k x = (L, 6)) := by show _ = _; unfold takeE; rw [if_pos h1, if_neg h2]
      have HNO : Hid (1125899906842624 - x < cR L k) := by show _ < _; omega
      clear h1 h2
      go_enter Try.func56, Try.ntmps56
      go_wp2_with fail
      refine wp_region_plan (fun W => TW W0 W γ [(gy, x), (gx, x), (gi, (k : Int) + 1)] L) Grows [IsV (.int .i64 (x)), IsV (.pointer (some ⟨γ, 0, none⟩)), IsV (.pointer (some ⟨γ, 0, none⟩)), IsV (.agg (rgtA L)), IsV (.int .i64 ((k : Int) + 1)), IsV (.int .i64 ((k : Int))), IsV (.int .i64 (leftR L k)), IsV (.bool false)] ([(0, .pointer (some ⟨γ, 0, none⟩)), (1, .func (.func 60) #[] #[.pointer (some ⟨gy, 0, none⟩)]), (2, .pointer (some ⟨gx, 0, none⟩)), (3, .pointer (some ⟨gi, 0, none⟩))] : List (Nat × Value)) (⟨rfl, rfl, rfl, rfl, trivial⟩) (n := 24) (by kernel_rfl) rfl (by kernel_rfl) t.drew Grows.refl (StabAll.get ?_) ?_ ?_
      · repeat (first | exact trivial | refine ⟨stab_c _, ?_⟩ | refine ⟨stab_two _ _, ?_⟩ | refine ⟨fun _ _ _ _ _ _ _ => trivial, ?_⟩)
      · refine ⟨?_, ⟨?_, ⟨?_, ⟨?_, ⟨?_, ⟨?_, ⟨?_, ⟨?_, trivial⟩⟩⟩⟩⟩⟩⟩⟩
        · intro a W hS hE hD
          obtain ⟨_, _, x2, _, _⟩ := hE
          have e2 := x2 (by kernel_rfl)
          refine plan_free rfl ?_
          have k2 := e2
          have hc := TW.at_ hS 1 rfl
          refine plan_value (v := .int .i64 (x)) (w' := W) (by go_simp) ⟨_, rfl, hS, Grows.refl _, rfl⟩
        · intro a W hS hE hD
          obtain ⟨x0, _, _, _, _⟩ := hE
          have e0 := x0 (by kernel_rfl)
          refine plan_free rfl ?_
          refine plan_value ex_move ⟨_, rfl, hS, Grows.refl _, ?_⟩
          exact e0
        · intro a W hS hE hD
          have k8 : a.tmps.getD 8 undef = .pointer (some ⟨γ, 0, none⟩) := hD 1 8 (by kernel_rfl)
          refine plan_free rfl ?_
          refine plan_value (v := .pointer (some ⟨γ, 0, none⟩)) (w' := W) (by go_simp) ⟨_, rfl, hS, Grows.refl _, rfl⟩
        · intro a W hS hE hD
          have k9 : a.tmps.getD 9 undef = .pointer (some ⟨γ, 0, none⟩) := hD 2 9 (by kernel_rfl)
          refine plan_free rfl ?_
          refine plan_value (ex_loadR k9 hS.rb) ⟨_, rfl, hS, Grows.refl _, rfl⟩
        · intro a W hS hE hD
          obtain ⟨_, _, _, x3, _⟩ := hE
          have e3 := x3 (by kernel_rfl)
          refine plan_free rfl ?_
          have k3 := e3
          have hc := TW.at_ hS 2 rfl
          refine plan_value (v := .int .i64 ((k : Int) + 1)) (w' := W) (by go_simp) ⟨_, rfl, hS, Grows.refl _, rfl⟩
        · intro a W hS hE hD
          have k11 : a.tmps.getD 11 undef = .int .i64 ((k : Int) + 1) := hD 4 11 (by kernel_rfl)
          refine plan_free rfl ?_
          refine plan_value (v := .int .i64 ((k : Int))) (w' := W) (by go_simp) ⟨_, rfl, hS, Grows.refl _, rfl⟩
        · intro a W hS hE hD
          have k10 : a.tmps.getD 10 undef = .agg (rgtA L) := hD 3 10 (by kernel_rfl)
          have k12 : a.tmps.getD 12 undef = .int .i64 ((k : Int)) := hD 5 12 (by kernel_rfl)
          refine plan_free rfl ?_
          refine plan_call (f := 44) (args := #[a.tmps.getD 10 undef, a.tmps.getD 12 undef]) (by kernel_rfl) ?_
          rw [k10, k12]
          refine (left_any L H54.out AM.out k hk W).mono ?_
          rintro e W2 ⟨rfl, hb⟩
          refine ⟨_, rfl, _, rfl, hS.next hb, hb, ?_⟩
          exact rfl
        · intro a W hS hE hD
          have k7 : a.tmps.getD 7 undef = .int .i64 (x) := hD 0 7 (by kernel_rfl)
          have k13 : a.tmps.getD 13 undef = .int .i64 (leftR L k) := hD 6 13 (by kernel_rfl)
          refine plan_free rfl ?_
          refine plan_value (v := .bool false) (w' := W) (by go_simp) ⟨_, rfl, hS, Grows.refl _, rfl⟩
      · intro f w2 V2 hE
        have f14 : f 14 = .bool false := Ends.get hE 7 _ rfl 14 rfl
        clear hE
        simp only [setAll, List.setIfInBounds_toArray, List.set_cons_zero, List.set_cons_succ]
        rw [f14]; clear f14
        clear t
        clear hg
        go_wp2_with fail
        refine wp_region_by (fun _ W => TW W0 W γ [(gy, x), (gx, x), (gi, (k : Int) + 1)] L) (fun _ _ => True) [IsV (.func (.func 60) #[] #[.pointer (some ⟨gy, 0, none⟩)]), IsV (.pointer (some ⟨γ, 0, none⟩)), IsV (.int .i64 ((k : Int) + 1)), IsV (.int .i64 ((k : Int))), IsV (.pointer (some ⟨γ, 0, none⟩)), IsV (.pointer (some ⟨γ, 6, none⟩)), IsV (.pointer (some ⟨γ, 6 + k, none⟩)), IsV (.bool false), IsV (.bool true)] ([(0, .pointer (some ⟨γ, 0, none⟩)), (1, .func (.func 60) #[] #[.pointer (some ⟨gy, 0, none⟩)]), (3, .pointer (some ⟨gi, 0, none⟩))] : List (Nat × Value)) (⟨rfl, rfl, rfl, trivial⟩) (n := 24) (by kernel_rfl) rfl (by kernel_rfl) V2.drew (fun _ => trivial) (StabBy.get ?_) ?_ ?_
        · repeat (first | exact trivial | refine ⟨fun _ _ _ _ h => h, ?_⟩)
        · refine ⟨?_, ⟨?_, ⟨?_, ⟨?_, ⟨?_, ⟨?_, ⟨?_, ⟨?_, ⟨?_, trivial⟩⟩⟩⟩⟩⟩⟩⟩⟩
          · intro a W ℓ hl hB hS hE hN hD
            obtain ⟨_, x1, _, _⟩ := hE
            have e1 := x1 (by kernel_rfl)
            refine plan_free rfl ?_
            refine plan_value ex_move ⟨_, rfl, hS, trivial, ?_⟩
            exact e1
          · intro a W ℓ hl hB hS hE hN hD
            obtain ⟨x0, _, _, _⟩ := hE
            have e0 := x0 (by kernel_rfl)
            refine plan_free rfl ?_
            refine plan_value ex_move ⟨_, rfl, hS, trivial, ?_⟩
            exact e0
          · intro a W ℓ hl hB hS hE hN hD
            obtain ⟨_, _, x3, _⟩ := hE
            have e3 := x3 (by kernel_rfl)
            refine plan_free rfl ?_
            have k3 := e3
            have hc := TW.at_ hS 2 rfl
            refine plan_value (v := .int .i64 ((k : Int) + 1)) (w' := W) (by go_simp) ⟨_, rfl, hS, trivial, rfl⟩
          · intro a W ℓ hl hB hS hE hN hD
            have k17 : a.tmps.getD 17 undef = .int .i64 ((k : Int) + 1) := hD 2 17 (by kernel_rfl)
            refine plan_free rfl ?_
            refine plan_value (v := .int .i64 ((k : Int))) (w' := W) (by go_simp) ⟨_, rfl, hS, trivial, rfl⟩
          · intro a W ℓ hl hB hS hE hN hD
            have k16 : a.tmps.getD 16 undef = .pointer (some ⟨γ, 0, none⟩) := hD 1 16 (by kernel_rfl)
            refine plan_free rfl ?_
            refine plan_value (v := .pointer (some ⟨γ, 0, none⟩)) (w' := W) (by go_simp) ⟨_, rfl, hS, trivial, rfl⟩
          · intro a W ℓ hl hB hS hE hN hD
            have k19 : a.tmps.getD 19 undef = .pointer (some ⟨γ, 0, none⟩) := hD 4 19 (by kernel_rfl)
            refine plan_free rfl ?_
            refine plan_value (v := .pointer (some ⟨γ, 6, none⟩)) (w' := W) (by go_simp) ⟨_, rfl, hS, trivial, rfl⟩
          · intro a W ℓ hl hB hS hE hN hD
            have k20 : a.tmps.getD 20 undef = .pointer (some ⟨γ, 6, none⟩) := hD 5 20 (by kernel_rfl)
            have k18 : a.tmps.getD 18 undef = .int .i64 ((k : Int)) := hD 3 18 (by kernel_rfl)
            refine plan_free rfl ?_
            refine plan_value (v := .pointer (some ⟨γ, 6 + k, none⟩)) (w' := W) (by go_simp) ⟨_, rfl, hS, trivial, rfl⟩
          · intro a W ℓ hl hB hS hE hN hD
            have k15 : a.tmps.getD 15 undef = .func (.func 60) #[] #[.pointer (some ⟨gy, 0, none⟩)] := hD 0 15 (by kernel_rfl)
            have k21 : a.tmps.getD 21 undef = .pointer (some ⟨γ, 6 + k, none⟩) := hD 6 21 (by kernel_rfl)
            refine plan_free rfl ?_
            refine plan_call (f := 60) (args := #[.pointer (some ⟨γ, 6 + k, none⟩), .pointer (some ⟨gy, 0, none⟩)]) (ex_call77 k15 k21) ?_
            refine (add_no γ (6 + k) gy (cR L k) x W ((TW.rb hS).c k hk) (TW.at_ hS 0 rfl) hx1 hx2 HNO.out).mono ?_
            rintro e W2 ⟨rfl, m, rfl⟩
            exact ⟨_, rfl, _, rfl, TW.drewN hS m, trivial, rfl⟩
          · intro a W ℓ hl hB hS hE hN hD
            have k22 : a.tmps.getD 22 undef = .bool false := hD 7 22 (by kernel_rfl)
            refine plan_free rfl ?_
            refine plan_value (v := .bool true) (w' := W) (by go_simp) ⟨_, rfl, hS, trivial, rfl⟩
        · intro f w3 ℓ hl V3 hE
          have f23 : f 23 = .bool true := Ends.get hE 8 _ rfl 23 rfl
          clear hE
          simp only [setAll, List.setIfInBounds_toArray, List.set_cons_zero, List.set_cons_succ]
          rw [f23]; clear f23
          clear V2
          go_wp2_with fail
          go_ret
          exact ⟨by rw [EV.out]; rfl, by rw [EV.out]; exact V3⟩
  · have EV : Hid (takeE L k x = (L, 11)) := by show _ = _; unfold takeE; rw [if_neg h1]
    have hg : leftR L k < x := by omega
    clear h1
    go_enter Try.func56, Try.ntmps56
    go_wp2_with fail
    refine wp_region_plan (fun W => TW W0 W γ [(gy, x), (gx, x), (gi, (k : Int) + 1)] L) Grows [IsV (.int .i64 (x)), IsV (.pointer (some ⟨γ, 0, none⟩)), IsV (.pointer (some ⟨γ, 0, none⟩)), IsV (.agg (rgtA L)), IsV (.int .i64 ((k : Int) + 1)), IsV (.int .i64 ((k : Int))), IsV (.int .i64 (leftR L k)), IsV (.bool true)] ([(0, .pointer (some ⟨γ, 0, none⟩)), (1, .func (.func 60) #[] #[.pointer (some ⟨gy, 0, none⟩)]), (2, .pointer (some ⟨gx, 0, none⟩)), (3, .pointer (some ⟨gi, 0, none⟩))] : List (Nat × Value)) (⟨rfl, rfl, rfl, rfl, trivial⟩) (n := 24) (by kernel_rfl) rfl (by kernel_rfl) t.drew Grows.refl (StabAll.get ?_) ?_ ?_
    · repeat (first | exact trivial | refine ⟨stab_c _, ?_⟩ | refine ⟨stab_two _ _, ?_⟩ | refine ⟨fun _ _ _ _ _ _ _ => trivial, ?_⟩)
    · refine ⟨?_, ⟨?_, ⟨?_, ⟨?_, ⟨?_, ⟨?_, ⟨?_, ⟨?_, trivial⟩⟩⟩⟩⟩⟩⟩⟩
      · intro a W hS hE hD
        obtain ⟨_, _, x2, _, _⟩ := hE
        have e2 := x2 (by kernel_rfl)
        refine plan_free rfl ?_
        have k2 := e2
        have hc := TW.at_ hS 1 rfl
        refine plan_value (v := .int .i64 (x)) (w' := W) (by go_simp) ⟨_, rfl, hS, Grows.refl _, rfl⟩
      · intro a W hS hE hD
        obtain ⟨x0, _, _, _, _⟩ := hE
        have e0 := x0 (by kernel_rfl)
        refine plan_free rfl ?_
        refine plan_value ex_move ⟨_, rfl, hS, Grows.refl _, ?_⟩
        exact e0
      · intro a W hS hE hD
        have k8 : a.tmps.getD 8 undef = .pointer (some ⟨γ, 0, none⟩) := hD 1 8 (by kernel_rfl)
        refine plan_free rfl ?_
        refine plan_value (v := .pointer (some ⟨γ, 0, none⟩)) (w' := W) (by go_simp) ⟨_, rfl, hS, Grows.refl _, rfl⟩
      · intro a W hS hE hD
        have k9 : a.tmps.getD 9 undef = .pointer (some ⟨γ, 0, none⟩) := hD 2 9 (by kernel_rfl)
        refine plan_free rfl ?_
        refine plan_value (ex_loadR k9 hS.rb) ⟨_, rfl, hS, Grows.refl _, rfl⟩
      · intro a W hS hE hD
        obtain ⟨_, _, _, x3, _⟩ := hE
        have e3 := x3 (by kernel_rfl)
        refine plan_free rfl ?_
        have k3 := e3
        have hc := TW.at_ hS 2 rfl
        refine plan_value (v := .int .i64 ((k : Int) + 1)) (w' := W) (by go_simp) ⟨_, rfl, hS, Grows.refl _, rfl⟩
      · intro a W hS hE hD
        have k11 : a.tmps.getD 11 undef = .int .i64 ((k : Int) + 1) := hD 4 11 (by kernel_rfl)
        refine plan_free rfl ?_
        refine plan_value (v := .int .i64 ((k : Int))) (w' := W) (by go_simp) ⟨_, rfl, hS, Grows.refl _, rfl⟩
      · intro a W hS hE hD
        have k10 : a.tmps.getD 10 undef = .agg (rgtA L) := hD 3 10 (by kernel_rfl)
        have k12 : a.tmps.getD 12 undef = .int .i64 ((k : Int)) := hD 5 12 (by kernel_rfl)
        refine plan_free rfl ?_
        refine plan_call (f := 44) (args := #[a.tmps.getD 10 undef, a.tmps.getD 12 undef]) (by kernel_rfl) ?_
        rw [k10, k12]
        refine (left_any L H54.out AM.out k hk W).mono ?_
        rintro e W2 ⟨rfl, hb⟩
        refine ⟨_, rfl, _, rfl, hS.next hb, hb, ?_⟩
        exact rfl
      · intro a W hS hE hD
        have k7 : a.tmps.getD 7 undef = .int .i64 (x) := hD 0 7 (by kernel_rfl)
        have k13 : a.tmps.getD 13 undef = .int .i64 (leftR L k) := hD 6 13 (by kernel_rfl)
        refine plan_free rfl ?_
        refine plan_value (v := .bool true) (w' := W) (by go_simp) ⟨_, rfl, hS, Grows.refl _, rfl⟩
    · intro f w2 V2 hE
      have f14 : f 14 = .bool true := Ends.get hE 7 _ rfl 14 rfl
      clear hE
      simp only [setAll, List.setIfInBounds_toArray, List.set_cons_zero, List.set_cons_succ]
      rw [f14]; clear f14
      clear t
      go_wp2_with fail
      go_ret
      exact ⟨by rw [EV.out]; rfl, by rw [EV.out]; exact V2⟩
theorem freeC (L : List Int) (hm : mayR L = true) (k : Nat) (hk : k < 6) (x : Int) (hx1 : 1 ≤ x) (hx2 : x ≤ 1125899906842624) (γ gy gx gi : Nat) (W0 W : World) (t : TW W0 W γ [(gy, x), (gx, x), (gi, (k : Int) + 1)] L) :
    Calls Try.prog 58 #[.pointer (some ⟨γ, 0, none⟩), .func (.func 60) #[] #[.pointer (some ⟨gy, 0, none⟩)], .pointer (some ⟨gx, 0, none⟩), .pointer (some ⟨gi, 0, none⟩)] W
      fun e w' => e = .returned (.int .i64 (freeE L k x).2) ∧ TW W0 w' γ [(gy, x), (gx, x), (gi, (k : Int) + 1)] (freeE L k x).1 := by
  have AM := Lib.hid (amt_may hm)
  have H54 := Lib.hid t.rb.len
  have hk0 : (0 : Int) ≤ (k : Int) := by omega
  have hk6 : (k : Int) < 6 := by omega
  have kw : IntKind.i64.wrap (k : Int) = (k : Int) := IntWalk.i64_in _ (by omega)
  have b1 := AM.out.c k hk
  have b2 := AM.out.f k hk
  have b3 := AM.out.fc k hk
  have kw2 : IntKind.i64.wrap (cR L k - fR L k) = cR L k - fR L k := IntWalk.i64_in _ (by omega)
  clear hm
  by_cases h1 : x ≤ cR L k - fR L k
  · have hg : ¬ cR L k - fR L k < x := by omega
    have EV : Hid (freeE L k x = (L.set (12 + k) (fR L k + x), 0)) := by show _ = _; unfold freeE; rw [if_pos h1]
    have HN := Lib.hid b2.1
    have HYES : Hid (fR L k ≤ 1125899906842624 - x) := by show _ ≤ _; omega
    clear h1 b1 b2 b3
    go_enter Try.func58, Try.ntmps58
    go_wp2_with fail
    refine wp_region_by (fun ℓ W => TW W0 W γ [(gy, x), (gx, x), (gi, (k : Int) + 1)] (cond (ℓ 25) (L.set (12 + k) (fR L k + x)) L)) (fun _ _ => True) [IsV (.int .i64 (x)), IsV (.pointer (some ⟨γ, 0, none⟩)), IsV (.int .i64 ((k : Int) + 1)), IsV (.int .i64 ((k : Int))), IsV (.pointer (some ⟨γ, 0, none⟩)), IsV (.pointer (some ⟨γ, 6, none⟩)), IsV (.pointer (some ⟨γ, 6 + k, none⟩)), IsV (.int .i64 (cR L k)), IsV (.pointer (some ⟨γ, 0, none⟩)), IsV (.int .i64 ((k : Int) + 1)), IsV (.int .i64 ((k : Int))), IsV (.pointer (some ⟨γ, 0, none⟩)), IsV (.pointer (some ⟨γ, 12, none⟩)), IsV (.pointer (some ⟨γ, 12 + k, none⟩)), IsV (.int .i64 (fR L k)), IsV (.int .i64 ((cR L k) - (fR L k))), IsV (.bool false), IsV (.bool false), IsV (.func (.func 60) #[] #[.pointer (some ⟨gy, 0, none⟩)]), IsV (.pointer (some ⟨γ, 0, none⟩)), IsV (.int .i64 ((k : Int) + 1)), IsV (.int .i64 ((k : Int))), IsV (.pointer (some ⟨γ, 0, none⟩)), IsV (.pointer (some ⟨γ, 12, none⟩)), IsV (.pointer (some ⟨γ, 12 + k, none⟩)), IsV (.bool true), IsV (.bool false), IsV (.bool false)] ([(0, .pointer (some ⟨γ, 0, none⟩)), (1, .func (.func 60) #[] #[.pointer (some ⟨gy, 0, none⟩)]), (2, .pointer (some ⟨gx, 0, none⟩)), (3, .pointer (some ⟨gi, 0, none⟩))] : List (Nat × Value)) (⟨rfl, rfl, rfl, rfl, trivial⟩) (n := 35) (by kernel_rfl) rfl (by kernel_rfl) t.drew (fun _ => trivial) (StabBy.get ?_) ?_ ?_
    · repeat (first | exact trivial | refine ⟨fun _ _ _ _ h => h, ?_⟩)
    · refine ⟨?_, ⟨?_, ⟨?_, ⟨?_, ⟨?_, ⟨?_, ⟨?_, ⟨?_, ⟨?_, ⟨?_, ⟨?_, ⟨?_, ⟨?_, ⟨?_, ⟨?_, ⟨?_, ⟨?_, ⟨?_, ⟨?_, ⟨?_, ⟨?_, ⟨?_, ⟨?_, ⟨?_, ⟨?_, ⟨?_, ⟨?_, ⟨?_, trivial⟩⟩⟩⟩⟩⟩⟩⟩⟩⟩⟩⟩⟩⟩⟩⟩⟩⟩⟩⟩⟩⟩⟩⟩⟩⟩⟩⟩
      · intro a W ℓ hl hB hS hE hN hD
        obtain ⟨_, _, x2, _, _⟩ := hE
        have e2 := x2 (by kernel_rfl)
        refine plan_free rfl ?_
        have k2 := e2
        have hc := TW.at_ hS 1 rfl
        refine plan_value (v := .int .i64 (x)) (w' := W) (by go_simp) ⟨_, rfl, hS, trivial, rfl⟩
      · intro a W ℓ hl hB hS hE hN hD
        obtain ⟨x0, _, _, _, _⟩ := hE
        have e0 := x0 (by kernel_rfl)
        refine plan_free rfl ?_
        refine plan_value ex_move ⟨_, rfl, hS, trivial, ?_⟩
        exact e0
      · intro a W ℓ hl hB hS hE hN hD
        obtain ⟨_, _, _, x3, _⟩ := hE
        have e3 := x3 (by kernel_rfl)
        refine plan_free rfl ?_
        have k3 := e3
        have hc := TW.at_ hS 2 rfl
        refine plan_value (v := .int .i64 ((k : Int) + 1)) (w' := W) (by go_simp) ⟨_, rfl, hS, trivial, rfl⟩
      · intro a W ℓ hl hB hS hE hN hD
        have k9 : a.tmps.getD 9 undef = .int .i64 ((k : Int) + 1) := hD 2 9 (by kernel_rfl)
        refine plan_free rfl ?_
        refine plan_value (v := .int .i64 ((k : Int))) (w' := W) (by go_simp) ⟨_, rfl, hS, trivial, rfl⟩
      · intro a W ℓ hl hB hS hE hN hD
        have k8 : a.tmps.getD 8 undef = .pointer (some ⟨γ, 0, none⟩) := hD 1 8 (by kernel_rfl)
        refine plan_free rfl ?_
        refine plan_value (v := .pointer (some ⟨γ, 0, none⟩)) (w' := W) (by go_simp) ⟨_, rfl, hS, trivial, rfl⟩
      · intro a W ℓ hl hB hS hE hN hD
        have k11 : a.tmps.getD 11 undef = .pointer (some ⟨γ, 0, none⟩) := hD 4 11 (by kernel_rfl)
        refine plan_free rfl ?_
        refine plan_value (v := .pointer (some ⟨γ, 6, none⟩)) (w' := W) (by go_simp) ⟨_, rfl, hS, trivial, rfl⟩
      · intro a W ℓ hl hB hS hE hN hD
        have k12 : a.tmps.getD 12 undef = .pointer (some ⟨γ, 6, none⟩) := hD 5 12 (by kernel_rfl)
        have k10 : a.tmps.getD 10 undef = .int .i64 ((k : Int)) := hD 3 10 (by kernel_rfl)
        refine plan_free rfl ?_
        refine plan_value (v := .pointer (some ⟨γ, 6 + k, none⟩)) (w' := W) (by go_simp) ⟨_, rfl, hS, trivial, rfl⟩
      · intro a W ℓ hl hB hS hE hN hD
        have k13 : a.tmps.getD 13 undef = .pointer (some ⟨γ, 6 + k, none⟩) := hD 6 13 (by kernel_rfl)
        refine plan_free rfl ?_
        have h0 : TW W0 W γ [(gy, x), (gx, x), (gi, (k : Int) + 1)] L := by
          have h := hS
          simp only [hB 25 (by kernel_rfl), cond_false] at h
          exact h
        have hc := h0.rb.c k hk
        refine plan_value (v := .int .i64 (cR L k)) (w' := W) (by go_simp) ⟨_, rfl, hS, trivial, rfl⟩
      · intro a W ℓ hl hB hS hE hN hD
        obtain ⟨x0, _, _, _, _⟩ := hE
        have e0 := x0 (by kernel_rfl)
        refine plan_free rfl ?_
        refine plan_value ex_move ⟨_, rfl, hS, trivial, ?_⟩
        exact e0
      · intro a W ℓ hl hB hS hE hN hD
        obtain ⟨_, _, _, x3, _⟩ := hE
        have e3 := x3 (by kernel_rfl)
        refine plan_free rfl ?_
        have k3 := e3
        have hc := TW.at_ hS 2 rfl
        refine plan_value (v := .int .i64 ((k : Int) + 1)) (w' := W) (by go_simp) ⟨_, rfl, hS, trivial, rfl⟩
      · intro a W ℓ hl hB hS hE hN hD
        have k16 : a.tmps.getD 16 undef = .int .i64 ((k : Int) + 1) := hD 9 16 (by kernel_rfl)
        refine plan_free rfl ?_
        refine plan_value (v := .int .i64 ((k : Int))) (w' := W) (by go_simp) ⟨_, rfl, hS, trivial, rfl⟩
      · intro a W ℓ hl hB hS hE hN hD
        have k15 : a.tmps.getD 15 undef = .pointer (some ⟨γ, 0, none⟩) := hD 8 15 (by kernel_rfl)
        refine plan_free rfl ?_
        refine plan_value (v := .pointer (some ⟨γ, 0, none⟩)) (w' := W) (by go_simp) ⟨_, rfl, hS, trivial, rfl⟩
      · intro a W ℓ hl hB hS hE hN hD
        have k18 : a.tmps.getD 18 undef = .pointer (some ⟨γ, 0, none⟩) := hD 11 18 (by kernel_rfl)
        refine plan_free rfl ?_
        refine plan_value (v := .pointer (some ⟨γ, 12, none⟩)) (w' := W) (by go_simp) ⟨_, rfl, hS, trivial, rfl⟩
      · intro a W ℓ hl hB hS hE hN hD
        have k19 : a.tmps.getD 19 undef = .pointer (some ⟨γ, 12, none⟩) := hD 12 19 (by kernel_rfl)
        have k17 : a.tmps.getD 17 undef = .int .i64 ((k : Int)) := hD 10 17 (by kernel_rfl)
        refine plan_free rfl ?_
        refine plan_value (v := .pointer (some ⟨γ, 12 + k, none⟩)) (w' := W) (by go_simp) ⟨_, rfl, hS, trivial, rfl⟩
      · intro a W ℓ hl hB hS hE hN hD
        have k20 : a.tmps.getD 20 undef = .pointer (some ⟨γ, 12 + k, none⟩) := hD 13 20 (by kernel_rfl)
        refine plan_free rfl ?_
        have h0 : TW W0 W γ [(gy, x), (gx, x), (gi, (k : Int) + 1)] L := by
          have h := hS
          simp only [hB 25 (by kernel_rfl), cond_false] at h
          exact h
        have hc := h0.rb.f k hk
        refine plan_value (v := .int .i64 (fR L k)) (w' := W) (by go_simp) ⟨_, rfl, hS, trivial, rfl⟩
      · intro a W ℓ hl hB hS hE hN hD
        have k14 : a.tmps.getD 14 undef = .int .i64 (cR L k) := hD 7 14 (by kernel_rfl)
        have k21 : a.tmps.getD 21 undef = .int .i64 (fR L k) := hD 14 21 (by kernel_rfl)
        refine plan_free rfl ?_
        refine plan_value (v := .int .i64 ((cR L k) - (fR L k))) (w' := W) (by go_simp) ⟨_, rfl, hS, trivial, rfl⟩
      · intro a W ℓ hl hB hS hE hN hD
        have k7 : a.tmps.getD 7 undef = .int .i64 (x) := hD 0 7 (by kernel_rfl)
        have k22 : a.tmps.getD 22 undef = .int .i64 ((cR L k) - (fR L k)) := hD 15 22 (by kernel_rfl)
        refine plan_free rfl ?_
        refine plan_value (v := .bool false) (w' := W) (by go_simp) ⟨_, rfl, hS, trivial, rfl⟩
      · intro a W ℓ hl hB hS hE hN hD
        have k23 : a.tmps.getD 23 undef = .bool false := hD 16 23 (by kernel_rfl)
        refine plan_free rfl ?_
        refine plan_value ex_move ⟨_, rfl, hS, trivial, ?_⟩
        exact k23
      · intro a W ℓ hl hB hS hE hN hD
        obtain ⟨_, x1, _, _, _⟩ := hE
        have e1 := x1 (by kernel_rfl)
        have k24 : a.tmps.getD 24 undef = .bool false := hD 17 24 (by kernel_rfl)
        refine plan_want rfl (by kernel_rfl) k24 ?_
        refine plan_value ex_move ⟨_, rfl, hS, trivial, ?_⟩
        exact e1
      · intro a W ℓ hl hB hS hE hN hD
        obtain ⟨x0, _, _, _, _⟩ := hE
        have e0 := x0 (by kernel_rfl)
        have k24 : a.tmps.getD 24 undef = .bool false := hD 17 24 (by kernel_rfl)
        refine plan_want rfl (by kernel_rfl) k24 ?_
        refine plan_value ex_move ⟨_, rfl, hS, trivial, ?_⟩
        exact e0
      · intro a W ℓ hl hB hS hE hN hD
        obtain ⟨_, _, _, x3, _⟩ := hE
        have e3 := x3 (by kernel_rfl)
        have k24 : a.tmps.getD 24 undef = .bool false := hD 17 24 (by kernel_rfl)
        refine plan_want rfl (by kernel_rfl) k24 ?_
        have k3 := e3
        have hc := TW.at_ hS 2 rfl
        refine plan_value (v := .int .i64 ((k : Int) + 1)) (w' := W) (by go_simp) ⟨_, rfl, hS, trivial, rfl⟩
      · intro a W ℓ hl hB hS hE hN hD
        have k24 : a.tmps.getD 24 undef = .bool false := hD 17 24 (by kernel_rfl)
        have k27 : a.tmps.getD 27 undef = .int .i64 ((k : Int) + 1) := hD 20 27 (by kernel_rfl)
        refine plan_want rfl (by kernel_rfl) k24 ?_
        refine plan_value (v := .int .i64 ((k : Int))) (w' := W) (by go_simp) ⟨_, rfl, hS, trivial, rfl⟩
      · intro a W ℓ hl hB hS hE hN hD
        have k24 : a.tmps.getD 24 undef = .bool false := hD 17 24 (by kernel_rfl)
        have k26 : a.tmps.getD 26 undef = .pointer (some ⟨γ, 0, none⟩) := hD 19 26 (by kernel_rfl)
        refine plan_want rfl (by kernel_rfl) k24 ?_
        refine plan_value (v := .pointer (some ⟨γ, 0, none⟩)) (w' := W) (by go_simp) ⟨_, rfl, hS, trivial, rfl⟩
      · intro a W ℓ hl hB hS hE hN hD
        have k24 : a.tmps.getD 24 undef = .bool false := hD 17 24 (by kernel_rfl)
        have k29 : a.tmps.getD 29 undef = .pointer (some ⟨γ, 0, none⟩) := hD 22 29 (by kernel_rfl)
        refine plan_want rfl (by kernel_rfl) k24 ?_
        refine plan_value (v := .pointer (some ⟨γ, 12, none⟩)) (w' := W) (by go_simp) ⟨_, rfl, hS, trivial, rfl⟩
      · intro a W ℓ hl hB hS hE hN hD
        have k24 : a.tmps.getD 24 undef = .bool false := hD 17 24 (by kernel_rfl)
        have k30 : a.tmps.getD 30 undef = .pointer (some ⟨γ, 12, none⟩) := hD 23 30 (by kernel_rfl)
        have k28 : a.tmps.getD 28 undef = .int .i64 ((k : Int)) := hD 21 28 (by kernel_rfl)
        refine plan_want rfl (by kernel_rfl) k24 ?_
        refine plan_value (v := .pointer (some ⟨γ, 12 + k, none⟩)) (w' := W) (by go_simp) ⟨_, rfl, hS, trivial, rfl⟩
      · intro a W ℓ hl hB hS hE hN hD
        have k24 : a.tmps.getD 24 undef = .bool false := hD 17 24 (by kernel_rfl)
        have k25 : a.tmps.getD 25 undef = .func (.func 60) #[] #[.pointer (some ⟨gy, 0, none⟩)] := hD 18 25 (by kernel_rfl)
        have k31 : a.tmps.getD 31 undef = .pointer (some ⟨γ, 12 + k, none⟩) := hD 24 31 (by kernel_rfl)
        refine plan_want rfl (by kernel_rfl) k24 ?_
        have h0 : TW W0 W γ [(gy, x), (gx, x), (gi, (k : Int) + 1)] L := by
          have h := hS
          simp only [hl, cond_false] at h
          exact h
        refine plan_call (f := 60) (args := #[.pointer (some ⟨γ, 12 + k, none⟩), .pointer (some ⟨gy, 0, none⟩)]) (ex_call77 k25 k31) ?_
        refine (add_yes γ (12 + k) gy (fR L k) x W (h0.rb.f k hk) (h0.rb.blk.frozen _) (h0.at_ 0 rfl) HN.out hx1 hx2 (Int.not_lt.2 HYES.out)).mono ?_
        rintro e W2 ⟨rfl, m, rfl⟩
        exact ⟨_, rfl, _, rfl, (h0.put (12 + k) _).drewN m, trivial, rfl⟩
      · intro a W ℓ hl hB hS hE hN hD
        have k24 : a.tmps.getD 24 undef = .bool false := hD 17 24 (by kernel_rfl)
        have k32 : a.tmps.getD 32 undef = .bool true := hD 25 32 (by kernel_rfl)
        refine plan_want rfl (by kernel_rfl) k24 ?_
        refine plan_value (v := .bool false) (w' := W) (by go_simp) ⟨_, rfl, hS, trivial, rfl⟩
      · intro a W ℓ hl hB hS hE hN hD
        have k24 : a.tmps.getD 24 undef = .bool false := hD 17 24 (by kernel_rfl)
        have k33 : a.tmps.getD 33 undef = .bool false := hD 26 33 (by kernel_rfl)
        refine plan_free rfl ?_
        refine plan_value (v := .bool false) (w' := W) (by go_simp) ⟨_, rfl, hS, trivial, rfl⟩
    · intro f w3 ℓ hl V3 hE
      have f34 : f 34 = .bool false := Ends.get hE 27 _ rfl 34 rfl
      clear hE
      simp only [setAll, List.setIfInBounds_toArray, List.set_cons_zero, List.set_cons_succ]
      rw [f34]; clear f34
      have V4 : TW W0 w3 γ [(gy, x), (gx, x), (gi, (k : Int) + 1)] (L.set (12 + k) (fR L k + x)) := by
        have h := V3
        simp only [hl 25 (by simp), cond_true] at h
        exact h
      clear V3 t hg
      go_wp2_with fail
      go_ret
      exact ⟨by rw [EV.out]; rfl, by rw [EV.out]; exact V4⟩
  · have EV : Hid (freeE L k x = (L, 12)) := by show _ = _; unfold freeE; rw [if_neg h1]
    have hg : cR L k - fR L k < x := by omega
    clear h1 b1 b2 b3
    go_enter Try.func58, Try.ntmps58
    go_wp2_with fail
    refine wp_region_plan (fun W => TW W0 W γ [(gy, x), (gx, x), (gi, (k : Int) + 1)] L) Grows [IsV (.int .i64 (x)), IsV (.pointer (some ⟨γ, 0, none⟩)), IsV (.int .i64 ((k : Int) + 1)), IsV (.int .i64 ((k : Int))), IsV (.pointer (some ⟨γ, 0, none⟩)), IsV (.pointer (some ⟨γ, 6, none⟩)), IsV (.pointer (some ⟨γ, 6 + k, none⟩)), IsV (.int .i64 (cR L k)), IsV (.pointer (some ⟨γ, 0, none⟩)), IsV (.int .i64 ((k : Int) + 1)), IsV (.int .i64 ((k : Int))), IsV (.pointer (some ⟨γ, 0, none⟩)), IsV (.pointer (some ⟨γ, 12, none⟩)), IsV (.pointer (some ⟨γ, 12 + k, none⟩)), IsV (.int .i64 (fR L k)), IsV (.int .i64 ((cR L k) - (fR L k))), IsV (.bool true), IsV (.bool true), IsV (undef), IsV (undef), IsV (undef), IsV (undef), IsV (undef), IsV (undef), IsV (undef), IsV (undef), IsV (undef), IsV (.bool true)] ([(0, .pointer (some ⟨γ, 0, none⟩)), (1, .func (.func 60) #[] #[.pointer (some ⟨gy, 0, none⟩)]), (2, .pointer (some ⟨gx, 0, none⟩)), (3, .pointer (some ⟨gi, 0, none⟩))] : List (Nat × Value)) (⟨rfl, rfl, rfl, rfl, trivial⟩) (n := 35) (by kernel_rfl) rfl (by kernel_rfl) t.drew Grows.refl (StabAll.get ?_) ?_ ?_
    · repeat (first | exact trivial | refine ⟨stab_c _, ?_⟩ | refine ⟨stab_two _ _, ?_⟩ | refine ⟨fun _ _ _ _ _ _ _ => trivial, ?_⟩)
    · refine ⟨?_, ⟨?_, ⟨?_, ⟨?_, ⟨?_, ⟨?_, ⟨?_, ⟨?_, ⟨?_, ⟨?_, ⟨?_, ⟨?_, ⟨?_, ⟨?_, ⟨?_, ⟨?_, ⟨?_, ⟨?_, ⟨?_, ⟨?_, ⟨?_, ⟨?_, ⟨?_, ⟨?_, ⟨?_, ⟨?_, ⟨?_, ⟨?_, trivial⟩⟩⟩⟩⟩⟩⟩⟩⟩⟩⟩⟩⟩⟩⟩⟩⟩⟩⟩⟩⟩⟩⟩⟩⟩⟩⟩⟩
      · intro a W hS hE hD
        obtain ⟨_, _, x2, _, _⟩ := hE
        have e2 := x2 (by kernel_rfl)
        refine plan_free rfl ?_
        have k2 := e2
        have hc := TW.at_ hS 1 rfl
        refine plan_value (v := .int .i64 (x)) (w' := W) (by go_simp) ⟨_, rfl, hS, Grows.refl _, rfl⟩
      · intro a W hS hE hD
        obtain ⟨x0, _, _, _, _⟩ := hE
        have e0 := x0 (by kernel_rfl)
        refine plan_free rfl ?_
        refine plan_value ex_move ⟨_, rfl, hS, Grows.refl _, ?_⟩
        exact e0
      · intro a W hS hE hD
        obtain ⟨_, _, _, x3, _⟩ := hE
        have e3 := x3 (by kernel_rfl)
        refine plan_free rfl ?_
        have k3 := e3
        have hc := TW.at_ hS 2 rfl
        refine plan_value (v := .int .i64 ((k : Int) + 1)) (w' := W) (by go_simp) ⟨_, rfl, hS, Grows.refl _, rfl⟩
      · intro a W hS hE hD
        have k9 : a.tmps.getD 9 undef = .int .i64 ((k : Int) + 1) := hD 2 9 (by kernel_rfl)
        refine plan_free rfl ?_
        refine plan_value (v := .int .i64 ((k : Int))) (w' := W) (by go_simp) ⟨_, rfl, hS, Grows.refl _, rfl⟩
      · intro a W hS hE hD
        have k8 : a.tmps.getD 8 undef = .pointer (some ⟨γ, 0, none⟩) := hD 1 8 (by kernel_rfl)
        refine plan_free rfl ?_
        refine plan_value (v := .pointer (some ⟨γ, 0, none⟩)) (w' := W) (by go_simp) ⟨_, rfl, hS, Grows.refl _, rfl⟩
      · intro a W hS hE hD
        have k11 : a.tmps.getD 11 undef = .pointer (some ⟨γ, 0, none⟩) := hD 4 11 (by kernel_rfl)
        refine plan_free rfl ?_
        refine plan_value (v := .pointer (some ⟨γ, 6, none⟩)) (w' := W) (by go_simp) ⟨_, rfl, hS, Grows.refl _, rfl⟩
      · intro a W hS hE hD
        have k12 : a.tmps.getD 12 undef = .pointer (some ⟨γ, 6, none⟩) := hD 5 12 (by kernel_rfl)
        have k10 : a.tmps.getD 10 undef = .int .i64 ((k : Int)) := hD 3 10 (by kernel_rfl)
        refine plan_free rfl ?_
        refine plan_value (v := .pointer (some ⟨γ, 6 + k, none⟩)) (w' := W) (by go_simp) ⟨_, rfl, hS, Grows.refl _, rfl⟩
      · intro a W hS hE hD
        have k13 : a.tmps.getD 13 undef = .pointer (some ⟨γ, 6 + k, none⟩) := hD 6 13 (by kernel_rfl)
        refine plan_free rfl ?_
        have hc := hS.rb.c k hk
        refine plan_value (v := .int .i64 (cR L k)) (w' := W) (by go_simp) ⟨_, rfl, hS, Grows.refl _, rfl⟩
      · intro a W hS hE hD
        obtain ⟨x0, _, _, _, _⟩ := hE
        have e0 := x0 (by kernel_rfl)
        refine plan_free rfl ?_
        refine plan_value ex_move ⟨_, rfl, hS, Grows.refl _, ?_⟩
        exact e0
      · intro a W hS hE hD
        obtain ⟨_, _, _, x3, _⟩ := hE
        have e3 := x3 (by kernel_rfl)
        refine plan_free rfl ?_
        have k3 := e3
        have hc := TW.at_ hS 2 rfl
        refine plan_value (v := .int .i64 ((k : Int) + 1)) (w' := W) (by go_simp) ⟨_, rfl, hS, Grows.refl _, rfl⟩
      · intro a W hS hE hD
        have k16 : a.tmps.getD 16 undef = .int .i64 ((k : Int) + 1) := hD 9 16 (by kernel_rfl)
        refine plan_free rfl ?_
        refine plan_value (v := .int .i64 ((k : Int))) (w' := W) (by go_simp) ⟨_, rfl, hS, Grows.refl _, rfl⟩
      · intro a W hS hE hD
        have k15 : a.tmps.getD 15 undef = .pointer (some ⟨γ, 0, none⟩) := hD 8 15 (by kernel_rfl)
        refine plan_free rfl ?_
        refine plan_value (v := .pointer (some ⟨γ, 0, none⟩)) (w' := W) (by go_simp) ⟨_, rfl, hS, Grows.refl _, rfl⟩
      · intro a W hS hE hD
        have k18 : a.tmps.getD 18 undef = .pointer (some ⟨γ, 0, none⟩) := hD 11 18 (by kernel_rfl)
        refine plan_free rfl ?_
        refine plan_value (v := .pointer (some ⟨γ, 12, none⟩)) (w' := W) (by go_simp) ⟨_, rfl, hS, Grows.refl _, rfl⟩
      · intro a W hS hE hD
        have k19 : a.tmps.getD 19 undef = .pointer (some ⟨γ, 12, none⟩) := hD 12 19 (by kernel_rfl)
        have k17 : a.tmps.getD 17 undef = .int .i64 ((k : Int)) := hD 10 17 (by kernel_rfl)
        refine plan_free rfl ?_
        refine plan_value (v := .pointer (some ⟨γ, 12 + k, none⟩)) (w' := W) (by go_simp) ⟨_, rfl, hS, Grows.refl _, rfl⟩
      · intro a W hS hE hD
        have k20 : a.tmps.getD 20 undef = .pointer (some ⟨γ, 12 + k, none⟩) := hD 13 20 (by kernel_rfl)
        refine plan_free rfl ?_
        have hc := hS.rb.f k hk
        refine plan_value (v := .int .i64 (fR L k)) (w' := W) (by go_simp) ⟨_, rfl, hS, Grows.refl _, rfl⟩
      · intro a W hS hE hD
        have k14 : a.tmps.getD 14 undef = .int .i64 (cR L k) := hD 7 14 (by kernel_rfl)
        have k21 : a.tmps.getD 21 undef = .int .i64 (fR L k) := hD 14 21 (by kernel_rfl)
        refine plan_free rfl ?_
        refine plan_value (v := .int .i64 ((cR L k) - (fR L k))) (w' := W) (by go_simp) ⟨_, rfl, hS, Grows.refl _, rfl⟩
      · intro a W hS hE hD
        have k7 : a.tmps.getD 7 undef = .int .i64 (x) := hD 0 7 (by kernel_rfl)
        have k22 : a.tmps.getD 22 undef = .int .i64 ((cR L k) - (fR L k)) := hD 15 22 (by kernel_rfl)
        refine plan_free rfl ?_
        refine plan_value (v := .bool true) (w' := W) (by go_simp) ⟨_, rfl, hS, Grows.refl _, rfl⟩
      · intro a W hS hE hD
        have k23 : a.tmps.getD 23 undef = .bool true := hD 16 23 (by kernel_rfl)
        refine plan_free rfl ?_
        refine plan_value ex_move ⟨_, rfl, hS, Grows.refl _, ?_⟩
        exact k23
      · intro a W hS hE hD
        have k24 : a.tmps.getD 24 undef = .bool true := hD 17 24 (by kernel_rfl)
        refine plan_skip rfl (by kernel_rfl) k24 rfl ?_
        exact rfl
      · intro a W hS hE hD
        have k24 : a.tmps.getD 24 undef = .bool true := hD 17 24 (by kernel_rfl)
        refine plan_skip rfl (by kernel_rfl) k24 rfl ?_
        exact rfl
      · intro a W hS hE hD
        have k24 : a.tmps.getD 24 undef = .bool true := hD 17 24 (by kernel_rfl)
        refine plan_skip rfl (by kernel_rfl) k24 rfl ?_
        exact rfl
      · intro a W hS hE hD
        have k24 : a.tmps.getD 24 undef = .bool true := hD 17 24 (by kernel_rfl)
        refine plan_skip rfl (by kernel_rfl) k24 rfl ?_
        exact rfl
      · intro a W hS hE hD
        have k24 : a.tmps.getD 24 undef = .bool true := hD 17 24 (by kernel_rfl)
        refine plan_skip rfl (by kernel_rfl) k24 rfl ?_
        exact rfl
      · intro a W hS hE hD
        have k24 : a.tmps.getD 24 undef = .bool true := hD 17 24 (by kernel_rfl)
        refine plan_skip rfl (by kernel_rfl) k24 rfl ?_
        exact rfl
      · intro a W hS hE hD
        have k24 : a.tmps.getD 24 undef = .bool true := hD 17 24 (by kernel_rfl)
        refine plan_skip rfl (by kernel_rfl) k24 rfl ?_
        exact rfl
      · intro a W hS hE hD
        have k24 : a.tmps.getD 24 undef = .bool true := hD 17 24 (by kernel_rfl)
        refine plan_skip rfl (by kernel_rfl) k24 rfl ?_
        exact rfl
      · intro a W hS hE hD
        have k24 : a.tmps.getD 24 undef = .bool true := hD 17 24 (by kernel_rfl)
        refine plan_skip rfl (by kernel_rfl) k24 rfl ?_
        exact rfl
      · intro a W hS hE hD
        have k24 : a.tmps.getD 24 undef = .bool true := hD 17 24 (by kernel_rfl)
        have k33 : a.tmps.getD 33 undef = undef := hD 26 33 (by kernel_rfl)
        refine plan_free rfl ?_
        refine plan_value (v := .bool true) (w' := W) (by go_simp) ⟨_, rfl, hS, Grows.refl _, rfl⟩
    · intro f w3 V3 hE
      have f34 : f 34 = .bool true := Ends.get hE 27 _ rfl 34 rfl
      clear hE
      simp only [setAll, List.setIfInBounds_toArray, List.set_cons_zero, List.set_cons_succ]
      rw [f34]; clear f34
      clear t hg
      go_wp2_with fail
      go_ret
      exact ⟨by rw [EV.out]; rfl, by rw [EV.out]; exact V3⟩
theorem moveC (L : List Int) (hm : mayR L = true) (k : Nat) (hk : k < 6) (q : Nat) (hq : q < 6) (x : Int) (hx1 : 1 ≤ x) (hx2 : x ≤ 1125899906842624) (γ gy gi gj gx : Nat) (W0 W : World) (t : TW W0 W γ [(gy, x), (gx, x), (gi, (k : Int) + 1), (gj, (q : Int) + 1)] L) :
    Calls Try.prog 57 #[.pointer (some ⟨γ, 0, none⟩), .func (.func 60) #[] #[.pointer (some ⟨gy, 0, none⟩)], .pointer (some ⟨gi, 0, none⟩), .pointer (some ⟨gj, 0, none⟩), .pointer (some ⟨gx, 0, none⟩)] W
      fun e w' => e = .returned (.int .i64 (moveE L k q x).2) ∧ TW W0 w' γ [(gy, x), (gx, x), (gi, (k : Int) + 1), (gj, (q : Int) + 1)] (moveE L k q x).1 := by
  have AM := Lib.hid (amt_may hm)
  have H54 := Lib.hid t.rb.len
  have hk0 : (0 : Int) ≤ (k : Int) := by omega
  have hk6 : (k : Int) < 6 := by omega
  have kw : IntKind.i64.wrap (k : Int) = (k : Int) := IntWalk.i64_in _ (by omega)
  have hq0 : (0 : Int) ≤ (q : Int) := by omega
  have hq6 : (q : Int) < 6 := by omega
  have kwq : IntKind.i64.wrap (q : Int) = (q : Int) := IntWalk.i64_in _ (by omega)
  have d1 := t.at_ 2 rfl
  have d2 := t.at_ 3 rfl
  clear hm
  by_cases h0 : k = q
  · have EV : Hid (moveE L k q x = (L, 1)) := by show _ = _; unfold moveE; rw [if_pos h0]
    have hkq : (k : Int) = (q : Int) := by omega
    have T := Lib.hid t
    clear t h0
    go_enter Try.func57, Try.ntmps57
    go_wp2_with fail
    go_ret
    exact ⟨by rw [EV.out]; rfl, by rw [EV.out]; exact T.out⟩
  have hkq : ¬ (k : Int) = (q : Int) := by omega
  by_cases h1 : x ≤ leftR L k
  · have hg : ¬ leftR L k < x := by omega
    by_cases h2 : rR L k q + x ≤ 1125899906842624
    · have EV : Hid (moveE L k q x = (L.set (18 + k * 6 + q) (rR L k q + x), 0)) := by show _ = _; unfold moveE; rw [if_neg h0, if_pos h1, if_pos h2]
      have HN := Lib.hid (AM.out.r k q hk hq).1
      have HYES : Hid (rR L k q ≤ 1125899906842624 - x) := by show _ ≤ _; omega
      clear h0 h1 h2
      go_enter Try.func57, Try.ntmps57
      go_wp2_with fail
      refine wp_region_plan (fun W => TW W0 W γ [(gy, x), (gx, x), (gi, (k : Int) + 1), (gj, (q : Int) + 1)] L) Grows [IsV (.int .i64 (x)), IsV (.pointer (some ⟨γ, 0, none⟩)), IsV (.pointer (some ⟨γ, 0, none⟩)), IsV (.agg (rgtA L)), IsV (.int .i64 ((k : Int) + 1)), IsV (.int .i64 ((k : Int))), IsV (.int .i64 (leftR L k)), IsV (.bool false)] ([(0, .pointer (some ⟨γ, 0, none⟩)), (1, .func (.func 60) #[] #[.pointer (some ⟨gy, 0, none⟩)]), (2, .pointer (some ⟨gi, 0, none⟩)), (4, .pointer (some ⟨gx, 0, none⟩))] : List (Nat × Value)) (⟨rfl, rfl, rfl, rfl, trivial⟩) (n := 31) (by kernel_rfl) rfl (by kernel_rfl) t.drew Grows.refl (StabAll.get ?_) ?_ ?_
      · repeat (first | exact trivial | refine ⟨stab_c _, ?_⟩ | refine ⟨stab_two _ _, ?_⟩ | refine ⟨fun _ _ _ _ _ _ _ => trivial, ?_⟩)
      · refine ⟨?_, ⟨?_, ⟨?_, ⟨?_, ⟨?_, ⟨?_, ⟨?_, ⟨?_, trivial⟩⟩⟩⟩⟩⟩⟩⟩
        · intro a W hS hE hD
          obtain ⟨_, _, _, x4, _⟩ := hE
          have e4 := x4 (by kernel_rfl)
          refine plan_free rfl ?_
          have k4 := e4
          have hc := TW.at_ hS 1 rfl
          refine plan_value (v := .int .i64 (x)) (w' := W) (by go_simp) ⟨_, rfl, hS, Grows.refl _, rfl⟩
        · intro a W hS hE hD
          obtain ⟨x0, _, _, _, _⟩ := hE
          have e0 := x0 (by kernel_rfl)
          refine plan_free rfl ?_
          refine plan_value ex_move ⟨_, rfl, hS, Grows.refl _, ?_⟩
          exact e0
        · intro a W hS hE hD
          have k12 : a.tmps.getD 12 undef = .pointer (some ⟨γ, 0, none⟩) := hD 1 12 (by kernel_rfl)
          refine plan_free rfl ?_
          refine plan_value (v := .pointer (some ⟨γ, 0, none⟩)) (w' := W) (by go_simp) ⟨_, rfl, hS, Grows.refl _, rfl⟩
        · intro a W hS hE hD
          have k13 : a.tmps.getD 13 undef = .pointer (some ⟨γ, 0, none⟩) := hD 2 13 (by kernel_rfl)
          refine plan_free rfl ?_
          refine plan_value (ex_loadR k13 hS.rb) ⟨_, rfl, hS, Grows.refl _, rfl⟩
        · intro a W hS hE hD
          obtain ⟨_, _, x2, _, _⟩ := hE
          have e2 := x2 (by kernel_rfl)
          refine plan_free rfl ?_
          have k2 := e2
          have hc := TW.at_ hS 2 rfl
          refine plan_value (v := .int .i64 ((k : Int) + 1)) (w' := W) (by go_simp) ⟨_, rfl, hS, Grows.refl _, rfl⟩
        · intro a W hS hE hD
          have k15 : a.tmps.getD 15 undef = .int .i64 ((k : Int) + 1) := hD 4 15 (by kernel_rfl)
          refine plan_free rfl ?_
          refine plan_value (v := .int .i64 ((k : Int))) (w' := W) (by go_simp) ⟨_, rfl, hS, Grows.refl _, rfl⟩
        · intro a W hS hE hD
          have k14 : a.tmps.getD 14 undef = .agg (rgtA L) := hD 3 14 (by kernel_rfl)
          have k16 : a.tmps.getD 16 undef = .int .i64 ((k : Int)) := hD 5 16 (by kernel_rfl)
          refine plan_free rfl ?_
          refine plan_call (f := 44) (args := #[a.tmps.getD 14 undef, a.tmps.getD 16 undef]) (by kernel_rfl) ?_
          rw [k14, k16]
          refine (left_any L H54.out AM.out k hk W).mono ?_
          rintro e W2 ⟨rfl, hb⟩
          refine ⟨_, rfl, _, rfl, hS.next hb, hb, ?_⟩
          exact rfl
        · intro a W hS hE hD
          have k11 : a.tmps.getD 11 undef = .int .i64 (x) := hD 0 11 (by kernel_rfl)
          have k17 : a.tmps.getD 17 undef = .int .i64 (leftR L k) := hD 6 17 (by kernel_rfl)
          refine plan_free rfl ?_
          refine plan_value (v := .bool false) (w' := W) (by go_simp) ⟨_, rfl, hS, Grows.refl _, rfl⟩
      · intro f w2 V2 hE
        have f18 : f 18 = .bool false := Ends.get hE 7 _ rfl 18 rfl
        clear hE
        simp only [setAll, List.setIfInBounds_toArray, List.set_cons_zero, List.set_cons_succ]
        rw [f18]; clear f18
        clear t
        clear hg
        go_wp2_with fail
        refine wp_region_by (fun ℓ W => TW W0 W γ [(gy, x), (gx, x), (gi, (k : Int) + 1), (gj, (q : Int) + 1)] (cond (ℓ 10) (L.set (18 + k * 6 + q) (rR L k q + x)) L)) (fun _ _ => True) [IsV (.func (.func 60) #[] #[.pointer (some ⟨gy, 0, none⟩)]), IsV (.pointer (some ⟨γ, 0, none⟩)), IsV (.int .i64 ((k : Int) + 1)), IsV (.int .i64 ((k : Int))), IsV (.int .i64 ((q : Int) + 1)), IsV (.int .i64 ((q : Int))), IsV (.pointer (some ⟨γ, 0, none⟩)), IsV (.pointer (some ⟨γ, 18, none⟩)), IsV (.pointer (some ⟨γ, 18 + k * 6, none⟩)), IsV (.pointer (some ⟨γ, 18 + k * 6 + q, none⟩)), IsV (.bool true), IsV (.bool false)] ([(0, .pointer (some ⟨γ, 0, none⟩)), (1, .func (.func 60) #[] #[.pointer (some ⟨gy, 0, none⟩)]), (2, .pointer (some ⟨gi, 0, none⟩)), (3, .pointer (some ⟨gj, 0, none⟩))] : List (Nat × Value)) (⟨rfl, rfl, rfl, rfl, trivial⟩) (n := 31) (by kernel_rfl) rfl (by kernel_rfl) V2.drew (fun _ => trivial) (StabBy.get ?_) ?_ ?_
        · repeat (first | exact trivial | refine ⟨fun _ _ _ _ h => h, ?_⟩)
        · refine ⟨?_, ⟨?_, ⟨?_, ⟨?_, ⟨?_, ⟨?_, ⟨?_, ⟨?_, ⟨?_, ⟨?_, ⟨?_, ⟨?_, trivial⟩⟩⟩⟩⟩⟩⟩⟩⟩⟩⟩⟩
          · intro a W ℓ hl hB hS hE hN hD
            obtain ⟨_, x1, _, _, _⟩ := hE
            have e1 := x1 (by kernel_rfl)
            refine plan_free rfl ?_
            refine plan_value ex_move ⟨_, rfl, hS, trivial, ?_⟩
            exact e1
          · intro a W ℓ hl hB hS hE hN hD
            obtain ⟨x0, _, _, _, _⟩ := hE
            have e0 := x0 (by kernel_rfl)
            refine plan_free rfl ?_
            refine plan_value ex_move ⟨_, rfl, hS, trivial, ?_⟩
            exact e0
          · intro a W ℓ hl hB hS hE hN hD
            obtain ⟨_, _, x2, _, _⟩ := hE
            have e2 := x2 (by kernel_rfl)
            refine plan_free rfl ?_
            have k2 := e2
            have hc := TW.at_ hS 2 rfl
            refine plan_value (v := .int .i64 ((k : Int) + 1)) (w' := W) (by go_simp) ⟨_, rfl, hS, trivial, rfl⟩
          · intro a W ℓ hl hB hS hE hN hD
            have k21 : a.tmps.getD 21 undef = .int .i64 ((k : Int) + 1) := hD 2 21 (by kernel_rfl)
            refine plan_free rfl ?_
            refine plan_value (v := .int .i64 ((k : Int))) (w' := W) (by go_simp) ⟨_, rfl, hS, trivial, rfl⟩
          · intro a W ℓ hl hB hS hE hN hD
            obtain ⟨_, _, _, x3, _⟩ := hE
            have e3 := x3 (by kernel_rfl)
            refine plan_free rfl ?_
            have k3 := e3
            have hc := TW.at_ hS 3 rfl
            refine plan_value (v := .int .i64 ((q : Int) + 1)) (w' := W) (by go_simp) ⟨_, rfl, hS, trivial, rfl⟩
          · intro a W ℓ hl hB hS hE hN hD
            have k23 : a.tmps.getD 23 undef = .int .i64 ((q : Int) + 1) := hD 4 23 (by kernel_rfl)
            refine plan_free rfl ?_
            refine plan_value (v := .int .i64 ((q : Int))) (w' := W) (by go_simp) ⟨_, rfl, hS, trivial, rfl⟩
          · intro a W ℓ hl hB hS hE hN hD
            have k20 : a.tmps.getD 20 undef = .pointer (some ⟨γ, 0, none⟩) := hD 1 20 (by kernel_rfl)
            refine plan_free rfl ?_
            refine plan_value (v := .pointer (some ⟨γ, 0, none⟩)) (w' := W) (by go_simp) ⟨_, rfl, hS, trivial, rfl⟩
          · intro a W ℓ hl hB hS hE hN hD
            have k25 : a.tmps.getD 25 undef = .pointer (some ⟨γ, 0, none⟩) := hD 6 25 (by kernel_rfl)
            refine plan_free rfl ?_
            refine plan_value (v := .pointer (some ⟨γ, 18, none⟩)) (w' := W) (by go_simp) ⟨_, rfl, hS, trivial, rfl⟩
          · intro a W ℓ hl hB hS hE hN hD
            have k26 : a.tmps.getD 26 undef = .pointer (some ⟨γ, 18, none⟩) := hD 7 26 (by kernel_rfl)
            have k22 : a.tmps.getD 22 undef = .int .i64 ((k : Int)) := hD 3 22 (by kernel_rfl)
            refine plan_free rfl ?_
            refine plan_value (v := .pointer (some ⟨γ, 18 + k * 6, none⟩)) (w' := W) (by go_simp) ⟨_, rfl, hS, trivial, rfl⟩
          · intro a W ℓ hl hB hS hE hN hD
            have k27 : a.tmps.getD 27 undef = .pointer (some ⟨γ, 18 + k * 6, none⟩) := hD 8 27 (by kernel_rfl)
            have k24 : a.tmps.getD 24 undef = .int .i64 ((q : Int)) := hD 5 24 (by kernel_rfl)
            refine plan_free rfl ?_
            refine plan_value (v := .pointer (some ⟨γ, 18 + k * 6 + q, none⟩)) (w' := W) (by go_simp) ⟨_, rfl, hS, trivial, rfl⟩
          · intro a W ℓ hl hB hS hE hN hD
            have k19 : a.tmps.getD 19 undef = .func (.func 60) #[] #[.pointer (some ⟨gy, 0, none⟩)] := hD 0 19 (by kernel_rfl)
            have k28 : a.tmps.getD 28 undef = .pointer (some ⟨γ, 18 + k * 6 + q, none⟩) := hD 9 28 (by kernel_rfl)
            refine plan_free rfl ?_
            have h0 : TW W0 W γ [(gy, x), (gx, x), (gi, (k : Int) + 1), (gj, (q : Int) + 1)] L := by
              have h := hS
              simp only [hl, cond_false] at h
              exact h
            refine plan_call (f := 60) (args := #[.pointer (some ⟨γ, 18 + k * 6 + q, none⟩), .pointer (some ⟨gy, 0, none⟩)]) (ex_call77 k19 k28) ?_
            refine (add_yes γ (18 + k * 6 + q) gy (rR L k q) x W (h0.rb.r k q hk hq) (h0.rb.blk.frozen _) (h0.at_ 0 rfl) HN.out hx1 hx2 (Int.not_lt.2 HYES.out)).mono ?_
            rintro e W2 ⟨rfl, m, rfl⟩
            exact ⟨_, rfl, _, rfl, (h0.put (18 + k * 6 + q) _).drewN m, trivial, rfl⟩
          · intro a W ℓ hl hB hS hE hN hD
            have k29 : a.tmps.getD 29 undef = .bool true := hD 10 29 (by kernel_rfl)
            refine plan_free rfl ?_
            refine plan_value (v := .bool false) (w' := W) (by go_simp) ⟨_, rfl, hS, trivial, rfl⟩
        · intro f w3 ℓ hl V3 hE
          have f30 : f 30 = .bool false := Ends.get hE 11 _ rfl 30 rfl
          clear hE
          simp only [setAll, List.setIfInBounds_toArray, List.set_cons_zero, List.set_cons_succ]
          rw [f30]; clear f30
          have V4 : TW W0 w3 γ [(gy, x), (gx, x), (gi, (k : Int) + 1), (gj, (q : Int) + 1)] (L.set (18 + k * 6 + q) (rR L k q + x)) := by
            have h := V3
            simp only [hl 10 (by simp), cond_true] at h
            exact h
          clear V2 V3
          go_wp2_with fail
          go_ret
          exact ⟨by rw [EV.out]; rfl, by rw [EV.out]; exact V4⟩
    · have EV : Hid (moveE L k q x = (L, 6)) := by show _ = _; unfold moveE; rw [if_neg h0, if_pos h1, if_neg h2]
      have HNO : Hid (1125899906842624 - x < rR L k q) := by show _ < _; omega
      clear h0 h1 h2
      go_enter Try.func57, Try.ntmps57
      go_wp2_with fail
      refine wp_region_plan (fun W => TW W0 W γ [(gy, x), (gx, x), (gi, (k : Int) + 1), (gj, (q : Int) + 1)] L) Grows [IsV (.int .i64 (x)), IsV (.pointer (some ⟨γ, 0, none⟩)), IsV (.pointer (some ⟨γ, 0, none⟩)), IsV (.agg (rgtA L)), IsV (.int .i64 ((k : Int) + 1)), IsV (.int .i64 ((k : Int))), IsV (.int .i64 (leftR L k)), IsV (.bool false)] ([(0, .pointer (some ⟨γ, 0, none⟩)), (1, .func (.func 60) #[] #[.pointer (some ⟨gy, 0, none⟩)]), (2, .pointer (some ⟨gi, 0, none⟩)), (4, .pointer (some ⟨gx, 0, none⟩))] : List (Nat × Value)) (⟨rfl, rfl, rfl, rfl, trivial⟩) (n := 31) (by kernel_rfl) rfl (by kernel_rfl) t.drew Grows.refl (StabAll.get ?_) ?_ ?_
      · repeat (first | exact trivial | refine ⟨stab_c _, ?_⟩ | refine ⟨stab_two _ _, ?_⟩ | refine ⟨fun _ _ _ _ _ _ _ => trivial, ?_⟩)
      · refine ⟨?_, ⟨?_, ⟨?_, ⟨?_, ⟨?_, ⟨?_, ⟨?_, ⟨?_, trivial⟩⟩⟩⟩⟩⟩⟩⟩
        · intro a W hS hE hD
          obtain ⟨_, _, _, x4, _⟩ := hE
          have e4 := x4 (by kernel_rfl)
          refine plan_free rfl ?_
          have k4 := e4
          have hc := TW.at_ hS 1 rfl
          refine plan_value (v := .int .i64 (x)) (w' := W) (by go_simp) ⟨_, rfl, hS, Grows.refl _, rfl⟩
        · intro a W hS hE hD
          obtain ⟨x0, _, _, _, _⟩ := hE
          have e0 := x0 (by kernel_rfl)
          refine plan_free rfl ?_
          refine plan_value ex_move ⟨_, rfl, hS, Grows.refl _, ?_⟩
          exact e0
        · intro a W hS hE hD
          have k12 : a.tmps.getD 12 undef = .pointer (some ⟨γ, 0, none⟩) := hD 1 12 (by kernel_rfl)
          refine plan_free rfl ?_
          refine plan_value (v := .pointer (some ⟨γ, 0, none⟩)) (w' := W) (by go_simp) ⟨_, rfl, hS, Grows.refl _, rfl⟩
        · intro a W hS hE hD
          have k13 : a.tmps.getD 13 undef = .pointer (some ⟨γ, 0, none⟩) := hD 2 13 (by kernel_rfl)
          refine plan_free rfl ?_
          refine plan_value (ex_loadR k13 hS.rb) ⟨_, rfl, hS, Grows.refl _, rfl⟩
        · intro a W hS hE hD
          obtain ⟨_, _, x2, _, _⟩ := hE
          have e2 := x2 (by kernel_rfl)
          refine plan_free rfl ?_
          have k2 := e2
          have hc := TW.at_ hS 2 rfl
          refine plan_value (v := .int .i64 ((k : Int) + 1)) (w' := W) (by go_simp) ⟨_, rfl, hS, Grows.refl _, rfl⟩
        · intro a W hS hE hD
          have k15 : a.tmps.getD 15 undef = .int .i64 ((k : Int) + 1) := hD 4 15 (by kernel_rfl)
          refine plan_free rfl ?_
          refine plan_value (v := .int .i64 ((k : Int))) (w' := W) (by go_simp) ⟨_, rfl, hS, Grows.refl _, rfl⟩
        · intro a W hS hE hD
          have k14 : a.tmps.getD 14 undef = .agg (rgtA L) := hD 3 14 (by kernel_rfl)
          have k16 : a.tmps.getD 16 undef = .int .i64 ((k : Int)) := hD 5 16 (by kernel_rfl)
          refine plan_free rfl ?_
          refine plan_call (f := 44) (args := #[a.tmps.getD 14 undef, a.tmps.getD 16 undef]) (by kernel_rfl) ?_
          rw [k14, k16]
          refine (left_any L H54.out AM.out k hk W).mono ?_
          rintro e W2 ⟨rfl, hb⟩
          refine ⟨_, rfl, _, rfl, hS.next hb, hb, ?_⟩
          exact rfl
        · intro a W hS hE hD
          have k11 : a.tmps.getD 11 undef = .int .i64 (x) := hD 0 11 (by kernel_rfl)
          have k17 : a.tmps.getD 17 undef = .int .i64 (leftR L k) := hD 6 17 (by kernel_rfl)
          refine plan_free rfl ?_
          refine plan_value (v := .bool false) (w' := W) (by go_simp) ⟨_, rfl, hS, Grows.refl _, rfl⟩
      · intro f w2 V2 hE
        have f18 : f 18 = .bool false := Ends.get hE 7 _ rfl 18 rfl
        clear hE
        simp only [setAll, List.setIfInBounds_toArray, List.set_cons_zero, List.set_cons_succ]
        rw [f18]; clear f18
        clear t
        clear hg
        go_wp2_with fail
        refine wp_region_by (fun _ W => TW W0 W γ [(gy, x), (gx, x), (gi, (k : Int) + 1), (gj, (q : Int) + 1)] L) (fun _ _ => True) [IsV (.func (.func 60) #[] #[.pointer (some ⟨gy, 0, none⟩)]), IsV (.pointer (some ⟨γ, 0, none⟩)), IsV (.int .i64 ((k : Int) + 1)), IsV (.int .i64 ((k : Int))), IsV (.int .i64 ((q : Int) + 1)), IsV (.int .i64 ((q : Int))), IsV (.pointer (some ⟨γ, 0, none⟩)), IsV (.pointer (some ⟨γ, 18, none⟩)), IsV (.pointer (some ⟨γ, 18 + k * 6, none⟩)), IsV (.pointer (some ⟨γ, 18 + k * 6 + q, none⟩)), IsV (.bool false), IsV (.bool true)] ([(0, .pointer (some ⟨γ, 0, none⟩)), (1, .func (.func 60) #[] #[.pointer (some ⟨gy, 0, none⟩)]), (2, .pointer (some ⟨gi, 0, none⟩)), (3, .pointer (some ⟨gj, 0, none⟩))] : List (Nat × Value)) (⟨rfl, rfl, rfl, rfl, trivial⟩) (n := 31) (by kernel_rfl) rfl (by kernel_rfl) V2.drew (fun _ => trivial) (StabBy.get ?_) ?_ ?_
        · repeat (first | exact trivial | refine ⟨fun _ _ _ _ h => h, ?_⟩)
        · refine ⟨?_, ⟨?_, ⟨?_, ⟨?_, ⟨?_, ⟨?_, ⟨?_, ⟨?_, ⟨?_, ⟨?_, ⟨?_, ⟨?_, trivial⟩⟩⟩⟩⟩⟩⟩⟩⟩⟩⟩⟩
          · intro a W ℓ hl hB hS hE hN hD
            obtain ⟨_, x1, _, _, _⟩ := hE
            have e1 := x1 (by kernel_rfl)
            refine plan_free rfl ?_
            refine plan_value ex_move ⟨_, rfl, hS, trivial, ?_⟩
            exact e1
          · intro a W ℓ hl hB hS hE hN hD
            obtain ⟨x0, _, _, _, _⟩ := hE
            have e0 := x0 (by kernel_rfl)
            refine plan_free rfl ?_
            refine plan_value ex_move ⟨_, rfl, hS, trivial, ?_⟩
            exact e0
          · intro a W ℓ hl hB hS hE hN hD
            obtain ⟨_, _, x2, _, _⟩ := hE
            have e2 := x2 (by kernel_rfl)
            refine plan_free rfl ?_
            have k2 := e2
            have hc := TW.at_ hS 2 rfl
            refine plan_value (v := .int .i64 ((k : Int) + 1)) (w' := W) (by go_simp) ⟨_, rfl, hS, trivial, rfl⟩
          · intro a W ℓ hl hB hS hE hN hD
            have k21 : a.tmps.getD 21 undef = .int .i64 ((k : Int) + 1) := hD 2 21 (by kernel_rfl)
            refine plan_free rfl ?_
            refine plan_value (v := .int .i64 ((k : Int))) (w' := W) (by go_simp) ⟨_, rfl, hS, trivial, rfl⟩
          · intro a W ℓ hl hB hS hE hN hD
            obtain ⟨_, _, _, x3, _⟩ := hE
            have e3 := x3 (by kernel_rfl)
            refine plan_free rfl ?_
            have k3 := e3
            have hc := TW.at_ hS 3 rfl
            refine plan_value (v := .int .i64 ((q : Int) + 1)) (w' := W) (by go_simp) ⟨_, rfl, hS, trivial, rfl⟩
          · intro a W ℓ hl hB hS hE hN hD
            have k23 : a.tmps.getD 23 undef = .int .i64 ((q : Int) + 1) := hD 4 23 (by kernel_rfl)
            refine plan_free rfl ?_
            refine plan_value (v := .int .i64 ((q : Int))) (w' := W) (by go_simp) ⟨_, rfl, hS, trivial, rfl⟩
          · intro a W ℓ hl hB hS hE hN hD
            have k20 : a.tmps.getD 20 undef = .pointer (some ⟨γ, 0, none⟩) := hD 1 20 (by kernel_rfl)
            refine plan_free rfl ?_
            refine plan_value (v := .pointer (some ⟨γ, 0, none⟩)) (w' := W) (by go_simp) ⟨_, rfl, hS, trivial, rfl⟩
          · intro a W ℓ hl hB hS hE hN hD
            have k25 : a.tmps.getD 25 undef = .pointer (some ⟨γ, 0, none⟩) := hD 6 25 (by kernel_rfl)
            refine plan_free rfl ?_
            refine plan_value (v := .pointer (some ⟨γ, 18, none⟩)) (w' := W) (by go_simp) ⟨_, rfl, hS, trivial, rfl⟩
          · intro a W ℓ hl hB hS hE hN hD
            have k26 : a.tmps.getD 26 undef = .pointer (some ⟨γ, 18, none⟩) := hD 7 26 (by kernel_rfl)
            have k22 : a.tmps.getD 22 undef = .int .i64 ((k : Int)) := hD 3 22 (by kernel_rfl)
            refine plan_free rfl ?_
            refine plan_value (v := .pointer (some ⟨γ, 18 + k * 6, none⟩)) (w' := W) (by go_simp) ⟨_, rfl, hS, trivial, rfl⟩
          · intro a W ℓ hl hB hS hE hN hD
            have k27 : a.tmps.getD 27 undef = .pointer (some ⟨γ, 18 + k * 6, none⟩) := hD 8 27 (by kernel_rfl)
            have k24 : a.tmps.getD 24 undef = .int .i64 ((q : Int)) := hD 5 24 (by kernel_rfl)
            refine plan_free rfl ?_
            refine plan_value (v := .pointer (some ⟨γ, 18 + k * 6 + q, none⟩)) (w' := W) (by go_simp) ⟨_, rfl, hS, trivial, rfl⟩
          · intro a W ℓ hl hB hS hE hN hD
            have k19 : a.tmps.getD 19 undef = .func (.func 60) #[] #[.pointer (some ⟨gy, 0, none⟩)] := hD 0 19 (by kernel_rfl)
            have k28 : a.tmps.getD 28 undef = .pointer (some ⟨γ, 18 + k * 6 + q, none⟩) := hD 9 28 (by kernel_rfl)
            refine plan_free rfl ?_
            refine plan_call (f := 60) (args := #[.pointer (some ⟨γ, 18 + k * 6 + q, none⟩), .pointer (some ⟨gy, 0, none⟩)]) (ex_call77 k19 k28) ?_
            refine (add_no γ (18 + k * 6 + q) gy (rR L k q) x W ((TW.rb hS).r k q hk hq) (TW.at_ hS 0 rfl) hx1 hx2 HNO.out).mono ?_
            rintro e W2 ⟨rfl, m, rfl⟩
            exact ⟨_, rfl, _, rfl, TW.drewN hS m, trivial, rfl⟩
          · intro a W ℓ hl hB hS hE hN hD
            have k29 : a.tmps.getD 29 undef = .bool false := hD 10 29 (by kernel_rfl)
            refine plan_free rfl ?_
            refine plan_value (v := .bool true) (w' := W) (by go_simp) ⟨_, rfl, hS, trivial, rfl⟩
        · intro f w3 ℓ hl V3 hE
          have f30 : f 30 = .bool true := Ends.get hE 11 _ rfl 30 rfl
          clear hE
          simp only [setAll, List.setIfInBounds_toArray, List.set_cons_zero, List.set_cons_succ]
          rw [f30]; clear f30
          clear V2
          go_wp2_with fail
          go_ret
          exact ⟨by rw [EV.out]; rfl, by rw [EV.out]; exact V3⟩
  · have EV : Hid (moveE L k q x = (L, 11)) := by show _ = _; unfold moveE; rw [if_neg h0, if_neg h1]
    have hg : leftR L k < x := by omega
    clear h0 h1
    go_enter Try.func57, Try.ntmps57
    go_wp2_with fail
    refine wp_region_plan (fun W => TW W0 W γ [(gy, x), (gx, x), (gi, (k : Int) + 1), (gj, (q : Int) + 1)] L) Grows [IsV (.int .i64 (x)), IsV (.pointer (some ⟨γ, 0, none⟩)), IsV (.pointer (some ⟨γ, 0, none⟩)), IsV (.agg (rgtA L)), IsV (.int .i64 ((k : Int) + 1)), IsV (.int .i64 ((k : Int))), IsV (.int .i64 (leftR L k)), IsV (.bool true)] ([(0, .pointer (some ⟨γ, 0, none⟩)), (1, .func (.func 60) #[] #[.pointer (some ⟨gy, 0, none⟩)]), (2, .pointer (some ⟨gi, 0, none⟩)), (4, .pointer (some ⟨gx, 0, none⟩))] : List (Nat × Value)) (⟨rfl, rfl, rfl, rfl, trivial⟩) (n := 31) (by kernel_rfl) rfl (by kernel_rfl) t.drew Grows.refl (StabAll.get ?_) ?_ ?_
    · repeat (first | exact trivial | refine ⟨stab_c _, ?_⟩ | refine ⟨stab_two _ _, ?_⟩ | refine ⟨fun _ _ _ _ _ _ _ => trivial, ?_⟩)
    · refine ⟨?_, ⟨?_, ⟨?_, ⟨?_, ⟨?_, ⟨?_, ⟨?_, ⟨?_, trivial⟩⟩⟩⟩⟩⟩⟩⟩
      · intro a W hS hE hD
        obtain ⟨_, _, _, x4, _⟩ := hE
        have e4 := x4 (by kernel_rfl)
        refine plan_free rfl ?_
        have k4 := e4
        have hc := TW.at_ hS 1 rfl
        refine plan_value (v := .int .i64 (x)) (w' := W) (by go_simp) ⟨_, rfl, hS, Grows.refl _, rfl⟩
      · intro a W hS hE hD
        obtain ⟨x0, _, _, _, _⟩ := hE
        have e0 := x0 (by kernel_rfl)
        refine plan_free rfl ?_
        refine plan_value ex_move ⟨_, rfl, hS, Grows.refl _, ?_⟩
        exact e0
      · intro a W hS hE hD
        have k12 : a.tmps.getD 12 undef = .pointer (some ⟨γ, 0, none⟩) := hD 1 12 (by kernel_rfl)
        refine plan_free rfl ?_
        refine plan_value (v := .pointer (some ⟨γ, 0, none⟩)) (w' := W) (by go_simp) ⟨_, rfl, hS, Grows.refl _, rfl⟩
      · intro a W hS hE hD
        have k13 : a.tmps.getD 13 undef = .pointer (some ⟨γ, 0, none⟩) := hD 2 13 (by kernel_rfl)
        refine plan_free rfl ?_
        refine plan_value (ex_loadR k13 hS.rb) ⟨_, rfl, hS, Grows.refl _, rfl⟩
      · intro a W hS hE hD
        obtain ⟨_, _, x2, _, _⟩ := hE
        have e2 := x2 (by kernel_rfl)
        refine plan_free rfl ?_
        have k2 := e2
        have hc := TW.at_ hS 2 rfl
        refine plan_value (v := .int .i64 ((k : Int) + 1)) (w' := W) (by go_simp) ⟨_, rfl, hS, Grows.refl _, rfl⟩
      · intro a W hS hE hD
        have k15 : a.tmps.getD 15 undef = .int .i64 ((k : Int) + 1) := hD 4 15 (by kernel_rfl)
        refine plan_free rfl ?_
        refine plan_value (v := .int .i64 ((k : Int))) (w' := W) (by go_simp) ⟨_, rfl, hS, Grows.refl _, rfl⟩
      · intro a W hS hE hD
        have k14 : a.tmps.getD 14 undef = .agg (rgtA L) := hD 3 14 (by kernel_rfl)
        have k16 : a.tmps.getD 16 undef = .int .i64 ((k : Int)) := hD 5 16 (by kernel_rfl)
        refine plan_free rfl ?_
        refine plan_call (f := 44) (args := #[a.tmps.getD 14 undef, a.tmps.getD 16 undef]) (by kernel_rfl) ?_
        rw [k14, k16]
        refine (left_any L H54.out AM.out k hk W).mono ?_
        rintro e W2 ⟨rfl, hb⟩
        refine ⟨_, rfl, _, rfl, hS.next hb, hb, ?_⟩
        exact rfl
      · intro a W hS hE hD
        have k11 : a.tmps.getD 11 undef = .int .i64 (x) := hD 0 11 (by kernel_rfl)
        have k17 : a.tmps.getD 17 undef = .int .i64 (leftR L k) := hD 6 17 (by kernel_rfl)
        refine plan_free rfl ?_
        refine plan_value (v := .bool true) (w' := W) (by go_simp) ⟨_, rfl, hS, Grows.refl _, rfl⟩
    · intro f w2 V2 hE
      have f18 : f 18 = .bool true := Ends.get hE 7 _ rfl 18 rfl
      clear hE
      simp only [setAll, List.setIfInBounds_toArray, List.set_cons_zero, List.set_cons_succ]
      rw [f18]; clear f18
      clear t
      go_wp2_with fail
      go_ret
      exact ⟨by rw [EV.out]; rfl, by rw [EV.out]; exact V2⟩
end Go.Proofs.Ytmddbpkojboogaa
