import Derived.Test.YtjihbjjekhncaaaEvA
import Derived.Test.YtjihbjjekhncaaaPlanE
namespace Go.Proofs.Ytjihbjjekhncaaa
open Go.RowKit
/-! events: may the fields that an event's kind has be? -/
def keep (e : Ev) (n t a r f : Bool) : Ev := { e with n := if n then e.n else 0, t := if t then e.t else 0, a := if a then e.a else 0, r := if r then e.r else 0, f := if f then e.f else 0 }
theorem keep_d (e : Ev) (n t a r f : Bool) : (keep e n t a r f).d = e.d := rfl
theorem head_keep (e : Ev) : headE e = keep e false false false false false := rfl
theorem evA_tail {e g : Ev} (h : e.d.length = 6) (hd : g.d = e.d) (ho : g.o = e.o) (hs : g.s = e.s) (j : Nat) (v : Value)
    (hj : [Value.int .u8 (g.k : Int), .int .u64 (g.n : Int), .int .i64 g.t, .int .i64 g.a, .int .u64 (g.r : Int), .int .u64 (g.f : Int)] = [Value.int .u8 (e.k : Int), .int .u64 (e.n : Int), .int .i64 e.t, .int .i64 e.a, .int .u64 (e.r : Int), .int .u64 (e.f : Int)].set j v) :
    (evA e).setIfInBounds (8 + j) v = evA g := by
  unfold evA evL
  rw [hj, hd, ho, hs]
  rw [List.setIfInBounds_toArray, show 8 + j = j + 6 + 1 + 1 by omega, List.set_cons_succ, List.set_cons_succ, List.set_append_right _ _ (by rw [vecL_len]; omega), vecL_len, h, Nat.add_sub_cancel]
theorem keep_n {e : Ev} (h : e.d.length = 6) (n t a r f : Bool) : (evA (keep e n t a r f)).setIfInBounds 9 (.int .u64 (e.n : Int)) = evA (keep e true t a r f) := evA_tail (e := keep e n t a r f) (g := keep e true t a r f) h rfl rfl rfl 1 _ rfl
theorem keep_t {e : Ev} (h : e.d.length = 6) (n t a r f : Bool) : (evA (keep e n t a r f)).setIfInBounds 10 (.int .i64 e.t) = evA (keep e n true a r f) := evA_tail (e := keep e n t a r f) (g := keep e n true a r f) h rfl rfl rfl 2 _ rfl
theorem keep_a {e : Ev} (h : e.d.length = 6) (n t a r f : Bool) : (evA (keep e n t a r f)).setIfInBounds 11 (.int .i64 e.a) = evA (keep e n t true r f) := evA_tail (e := keep e n t a r f) (g := keep e n t true r f) h rfl rfl rfl 3 _ rfl
theorem keep_r {e : Ev} (h : e.d.length = 6) (n t a r f : Bool) : (evA (keep e n t a r f)).setIfInBounds 12 (.int .u64 (e.r : Int)) = evA (keep e n t a true f) := evA_tail (e := keep e n t a r f) (g := keep e n t a true f) h rfl rfl rfl 4 _ rfl
theorem keep_f {e : Ev} (h : e.d.length = 6) (n t a r f : Bool) : (evA (keep e n t a r f)).setIfInBounds 13 (.int .u64 (e.f : Int)) = evA (keep e n t a r true) := evA_tail (e := keep e n t a r f) (g := keep e n t a r true) h rfl rfl rfl 5 _ rfl
structure MB (w W : World) (e : Ev) (n t a r f : Bool) : Prop where
  src : EB W w.heap.size e
  own : EB W (w.heap.size + 1) (keep e n t a r f)
  bel : Below w.heap.size w W
section
variable {w W W' : World} {e : Ev} {n t a r f : Bool}
theorem MB.drew (h : MB w W e n t a r f) : MB w W.drew e n t a r f := ⟨h.src.drew, h.own.drew, h.bel.drew⟩
theorem MB.drewN (h : MB w W e n t a r f) (k : Nat) : MB w (W.drewN k) e n t a r f := ⟨h.src.drewN k, h.own.drewN k, Below.drewM h.bel k⟩
theorem MB.next (h : MB w W e n t a r f) (hb : Below W.heap.size W W') : MB w W' e n t a r f := ⟨h.src.after hb, h.own.after hb, h.bel.trans (hb.mono h.bel.size)⟩
theorem MB.first (h : e.d.length = 6) : MB w ((w.alloc (.cells (evA e) 26)).alloc (.cells (evA (headE e)) 26)) e false false false false false :=
  ⟨(EB.new w h).alloc _, by have := EB.new (w.alloc (.cells (evA e) 26)) (e := headE e) h; rw [show (w.alloc (.cells (evA e) 26)).heap.size = w.heap.size + 1 by simp] at this; exact this, ((Below.refl _ _).alloc (Nat.le_refl _) _).alloc (by simp) _⟩
theorem MB.made (h : e.d.length = 6) (n t a r f : Bool) : MB w ((w.alloc (.cells (evA e) 26)).alloc (.cells (evA (keep e n t a r f)) 26)) e n t a r f :=
  ⟨(EB.new w h).alloc _, by have := EB.new (w.alloc (.cells (evA e) 26)) (e := keep e n t a r f) h; rw [show (w.alloc (.cells (evA e) 26)).heap.size = w.heap.size + 1 by simp] at this; exact this, ((Below.refl _ _).alloc (Nat.le_refl _) _).alloc (by simp) _⟩
theorem MB.put_n (h : MB w W e n t a r f) : MB w (W.setCell ⟨w.heap.size + 1, 9, none⟩ (.int .u64 (e.n : Int))) e true t a r f :=
  ⟨h.src.far (by simp) _, ⟨by have := h.own.blk.set_ 9 (.int .u64 (e.n : Int)); rwa [keep_n h.src.d6] at this, h.own.d6⟩, h.bel.setCell (p := ⟨w.heap.size + 1, 9, none⟩) (by simp) _⟩
theorem MB.put_t (h : MB w W e n t a r f) : MB w (W.setCell ⟨w.heap.size + 1, 10, none⟩ (.int .i64 e.t)) e n true a r f :=
  ⟨h.src.far (by simp) _, ⟨by have := h.own.blk.set_ 10 (.int .i64 e.t); rwa [keep_t h.src.d6] at this, h.own.d6⟩, h.bel.setCell (p := ⟨w.heap.size + 1, 10, none⟩) (by simp) _⟩
theorem MB.put_a (h : MB w W e n t a r f) : MB w (W.setCell ⟨w.heap.size + 1, 11, none⟩ (.int .i64 e.a)) e n t true r f :=
  ⟨h.src.far (by simp) _, ⟨by have := h.own.blk.set_ 11 (.int .i64 e.a); rwa [keep_a h.src.d6] at this, h.own.d6⟩, h.bel.setCell (p := ⟨w.heap.size + 1, 11, none⟩) (by simp) _⟩
theorem MB.put_r (h : MB w W e n t a r f) : MB w (W.setCell ⟨w.heap.size + 1, 12, none⟩ (.int .u64 (e.r : Int))) e n t a true f :=
  ⟨h.src.far (by simp) _, ⟨by have := h.own.blk.set_ 12 (.int .u64 (e.r : Int)); rwa [keep_r h.src.d6] at this, h.own.d6⟩, h.bel.setCell (p := ⟨w.heap.size + 1, 12, none⟩) (by simp) _⟩
theorem MB.put_f (h : MB w W e n t a r f) : MB w (W.setCell ⟨w.heap.size + 1, 13, none⟩ (.int .u64 (e.f : Int))) e n t a r true :=
  ⟨h.src.far (by simp) _, ⟨by have := h.own.blk.set_ 13 (.int .u64 (e.f : Int)); rwa [keep_f h.src.d6] at this, h.own.d6⟩, h.bel.setCell (p := ⟨w.heap.size + 1, 13, none⟩) (by simp) _⟩
end
attribute [local go_sem ↓] exec_loadE exec_storeE exec_allocE exec_buildE exec_loadV
/-- what a kind has not is nought. -/
def evZ (e : Ev) (n t a r f : Bool) : Prop := (n = false → e.n = 0) ∧ (t = false → e.t = 0) ∧ (a = false → e.a = 0) ∧ (r = false → e.r = 0) ∧ (f = false → e.f = 0)
instance (e : Ev) (n t a r f : Bool) : Decidable (evZ e n t a r f) := by unfold evZ; infer_instance
theorem keep_eq (e : Ev) (n t a r f : Bool) : e = keep e n t a r f ↔ evZ e n t a r f := by
  obtain ⟨o, s, d, k, en, et, ea, er, ef⟩ := e
  simp only [keep, evZ, Ev.mk.injEq, true_and]
  cases n <;> cases t <;> cases a <;> cases r <;> cases f <;> simp
theorem keep_ok {e : Ev} {n t a r f : Bool} (h : e.ok) : (keep e n t a r f).ok := by
  refine ⟨h.d6, h.o, ?_, ?_, h.s, h.d, h.k, ?_, ?_, ?_⟩
  · cases t; exact rfl; exact h.t
  · cases a; exact rfl; exact h.a
  · cases n; exact Nat.zero_le _; exact h.n
  · cases r; exact Nat.zero_le _; exact h.r
  · cases f; exact Nat.zero_le _; exact h.f
set_option maxRecDepth 100000 in
set_option maxHeartbeats 1000000 in
theorem mf_1 (e : Ev) (h : e.ok) (hk : e.k = 1) (w : World) : Calls Try.prog 58 #[.agg (evA e)] w fun x w' => x = .returned (.bool (decide (evZ e true false true false false) && (amtE e.a 0))) ∧ Below w.heap.size w w' := by
  have M0 := MB.first (w := w) h.d6
  have c0 := (EB.new w h.d6).o
  have c1 := (EB.new w h.d6).s
  have c2 := run_loadV_mid h.d6 (EB.new w h.d6).dl
  have c3 := (EB.new w h.d6).k
  have bE := run_buildE4 e h.d6
  have aE := run_allocE
  have sE := run_storeE_new (e := headE e) h.d6 (w.alloc (.cells (evA e) 26))
  rw [show (w.alloc (.cells (evA e) 26)).heap.size = w.heap.size + 1 by simp] at sE
  have c4 := M0.src.k
  have q1 : ((e.k : Int) == 1) = true := by rw [hk]; rfl
  have OK := Lib.hid h
  have OWN := Lib.hid (keep_ok (n := true) (t := false) (a := true) (r := false) (f := false) h)
  have EQZ := Lib.hid (keep_eq e true false true false false)
  have AM := Lib.hid (amount_any e h.d6 0)
  have HM0 := Lib.hid M0
  clear h hk M0
  generalize (e.k : Int) = kz at c3 bE c4 q1
  go_enter Try.func58, Try.ntmps58
  go_wp2_with fail
  clear c0 c1 c2 c3 bE aE sE c4
  have M0 := HM0.out
  clear HM0
  refine wp_region_by (fun ℓ W => MB w W e (ℓ 5) false (ℓ 7) false false) (fun _ _ => True) [IsV (.pointer (some ⟨w.heap.size, 9, none⟩)), IsV (.int .u64 (e.n : Int)), IsV (.pointer (some ⟨w.heap.size, 11, none⟩)), IsV (.int .i64 e.a), IsV (.pointer (some ⟨w.heap.size + 1, 9, none⟩)), fun _ _ => True, IsV (.pointer (some ⟨w.heap.size + 1, 11, none⟩)), fun _ _ => True] ([(1, .pointer (some ⟨w.heap.size, 0, none⟩)), (3, .pointer (some ⟨w.heap.size + 1, 0, none⟩))] : List (Nat × Value)) (⟨rfl, rfl, trivial⟩) (n := 135) (by kernel_rfl) rfl (by kernel_rfl) M0.drew (fun _ => trivial) (StabBy.get ?_) ?_ ?_
  · repeat (first | exact trivial | refine ⟨fun _ _ _ _ h => h, ?_⟩)
  · refine ⟨?_, ⟨?_, ⟨?_, ⟨?_, ⟨?_, ⟨?_, ⟨?_, ⟨?_, trivial⟩⟩⟩⟩⟩⟩⟩⟩
    · intro a W ℓ hl hB hS hE hN hD
      obtain ⟨x1, _, _⟩ := hE
      have e1 := x1 (by kernel_rfl)
      refine plan_free rfl ?_
      have k1 := e1
      refine plan_value (v := .pointer (some ⟨w.heap.size, 9, none⟩)) (w' := W) (by go_simp) ⟨_, rfl, hS, trivial, rfl⟩
    · intro a W ℓ hl hB hS hE hN hD
      have k17 : a.tmps.getD 17 undef = .pointer (some ⟨w.heap.size, 9, none⟩) := hD 0 17 (by kernel_rfl)
      refine plan_free rfl ?_
      have cc := hS.src.n
      refine plan_value (v := .int .u64 (e.n : Int)) (w' := W) (by go_simp) ⟨_, rfl, hS, trivial, rfl⟩
    · intro a W ℓ hl hB hS hE hN hD
      obtain ⟨x1, _, _⟩ := hE
      have e1 := x1 (by kernel_rfl)
      refine plan_free rfl ?_
      have k1 := e1
      refine plan_value (v := .pointer (some ⟨w.heap.size, 11, none⟩)) (w' := W) (by go_simp) ⟨_, rfl, hS, trivial, rfl⟩
    · intro a W ℓ hl hB hS hE hN hD
      have k19 : a.tmps.getD 19 undef = .pointer (some ⟨w.heap.size, 11, none⟩) := hD 2 19 (by kernel_rfl)
      refine plan_free rfl ?_
      have cc := hS.src.a
      refine plan_value (v := .int .i64 e.a) (w' := W) (by go_simp) ⟨_, rfl, hS, trivial, rfl⟩
    · intro a W ℓ hl hB hS hE hN hD
      obtain ⟨_, x3, _⟩ := hE
      have e3 := x3 (by kernel_rfl)
      refine plan_free rfl ?_
      have k3 := e3
      refine plan_value (v := .pointer (some ⟨w.heap.size + 1, 9, none⟩)) (w' := W) (by go_simp) ⟨_, rfl, hS, trivial, rfl⟩
    · intro a W ℓ hl hB hS hE hN hD
      have k21 : a.tmps.getD 21 undef = .pointer (some ⟨w.heap.size + 1, 9, none⟩) := hD 4 21 (by kernel_rfl)
      have k18 : a.tmps.getD 18 undef = .int .u64 (e.n : Int) := hD 1 18 (by kernel_rfl)
      refine plan_free rfl ?_
      have cc := hS.own.n
      have ff := hS.own.blk.frozen 9
      refine plan_unit (w' := W.setCell ⟨w.heap.size + 1, 9, none⟩ (.int .u64 (e.n : Int))) (by go_simp) ⟨_, rfl, MB.put_n hS, trivial, trivial⟩
    · intro a W ℓ hl hB hS hE hN hD
      obtain ⟨_, x3, _⟩ := hE
      have e3 := x3 (by kernel_rfl)
      refine plan_free rfl ?_
      have k3 := e3
      refine plan_value (v := .pointer (some ⟨w.heap.size + 1, 11, none⟩)) (w' := W) (by go_simp) ⟨_, rfl, hS, trivial, rfl⟩
    · intro a W ℓ hl hB hS hE hN hD
      have k22 : a.tmps.getD 22 undef = .pointer (some ⟨w.heap.size + 1, 11, none⟩) := hD 6 22 (by kernel_rfl)
      have k20 : a.tmps.getD 20 undef = .int .i64 e.a := hD 3 20 (by kernel_rfl)
      refine plan_free rfl ?_
      have cc := hS.own.a
      have ff := hS.own.blk.frozen 11
      refine plan_unit (w' := W.setCell ⟨w.heap.size + 1, 11, none⟩ (.int .i64 e.a)) (by go_simp) ⟨_, rfl, MB.put_a hS, trivial, trivial⟩
  · intro f w2 ℓ hl V hE
    clear hE
    simp only [setAll, List.setIfInBounds_toArray, List.set_cons_zero, List.set_cons_succ]
    simp only [hl 5 (by simp), hl 7 (by simp)] at V
    clear hl
    have ld1 := V.src.load
    have ld2 := V.own.load
    have HV := Lib.hid V
    clear V
    by_cases hz : evZ e true false true false false
    case neg =>
      have qe : ∀ W, (Op.equalIn 10000 26 (.agg (evA e)) (.agg (evA (keep e true false true false false)))).run Try.prog W = .ok false W := ev_diff OK.out OWN.out (fun x => hz (EQZ.out.1 x))
      have HZ : Hid (decide (evZ e true false true false false) = false) := decide_eq_false hz
      clear hz
      go_wp2_with fail
      go_ret
      exact ⟨by rw [HZ.out]; rfl, HV.out.bel⟩
    case pos =>
      have qe : ∀ W, (Op.equalIn 10000 26 (.agg (evA e)) (.agg (evA (keep e true false true false false)))).run Try.prog W = .ok true W := by rw [← EQZ.out.2 hz]; exact ev_same OK.out
      have HZ : Hid (decide (evZ e true false true false false) = true) := decide_eq_true hz
      clear hz
      cases hT0 : amtE e.a 0
      case false =>
        rw [hT0] at AM
        have B0 := Lib.hid hT0
        clear hT0
        go_wp2_with fail
        refine (AM.out _).mono ?_
        rintro _ v1 ⟨rfl, hb⟩
        have HV1 := Lib.hid (HV.out.next hb)
        clear hb
        have le1 := HV1.out.src.load
        go_wp2_with fail
        go_ret
        exact ⟨by rw [HZ.out, B0.out]; rfl, HV1.out.bel⟩
      case true =>
        rw [hT0] at AM
        have B0 := Lib.hid hT0
        clear hT0
        go_wp2_with fail
        refine (AM.out _).mono ?_
        rintro _ v1 ⟨rfl, hb⟩
        have HV1 := Lib.hid (HV.out.next hb)
        clear hb
        have le1 := HV1.out.src.load
        go_wp2_with fail
        go_ret
        exact ⟨by rw [HZ.out, B0.out]; rfl, HV1.out.bel⟩
set_option maxRecDepth 100000 in
set_option maxHeartbeats 1000000 in
theorem mf_2 (e : Ev) (h : e.ok) (hk : e.k = 2) (w : World) : Calls Try.prog 58 #[.agg (evA e)] w fun x w' => x = .returned (.bool (decide (evZ e true false true false false) && (amtE e.a 1))) ∧ Below w.heap.size w w' := by
  have M0 := MB.first (w := w) h.d6
  have c0 := (EB.new w h.d6).o
  have c1 := (EB.new w h.d6).s
  have c2 := run_loadV_mid h.d6 (EB.new w h.d6).dl
  have c3 := (EB.new w h.d6).k
  have bE := run_buildE4 e h.d6
  have aE := run_allocE
  have sE := run_storeE_new (e := headE e) h.d6 (w.alloc (.cells (evA e) 26))
  rw [show (w.alloc (.cells (evA e) 26)).heap.size = w.heap.size + 1 by simp] at sE
  have c4 := M0.src.k
  have q1 : ((e.k : Int) == 1) = false := by rw [hk]; rfl
  have q2 : ((e.k : Int) == 2) = true := by rw [hk]; rfl
  have OK := Lib.hid h
  have OWN := Lib.hid (keep_ok (n := true) (t := false) (a := true) (r := false) (f := false) h)
  have EQZ := Lib.hid (keep_eq e true false true false false)
  have AM := Lib.hid (amount_any e h.d6 1)
  have HM0 := Lib.hid M0
  clear h hk M0
  generalize (e.k : Int) = kz at c3 bE c4 q1 q2
  go_enter Try.func58, Try.ntmps58
  go_wp2_with fail
  clear c0 c1 c2 c3 bE aE sE c4
  have M0 := HM0.out
  clear HM0
  refine wp_region_by (fun ℓ W => MB w W e (ℓ 5) false (ℓ 7) false false) (fun _ _ => True) [IsV (.pointer (some ⟨w.heap.size, 9, none⟩)), IsV (.int .u64 (e.n : Int)), IsV (.pointer (some ⟨w.heap.size, 11, none⟩)), IsV (.int .i64 e.a), IsV (.pointer (some ⟨w.heap.size + 1, 9, none⟩)), fun _ _ => True, IsV (.pointer (some ⟨w.heap.size + 1, 11, none⟩)), fun _ _ => True] ([(1, .pointer (some ⟨w.heap.size, 0, none⟩)), (3, .pointer (some ⟨w.heap.size + 1, 0, none⟩))] : List (Nat × Value)) (⟨rfl, rfl, trivial⟩) (n := 135) (by kernel_rfl) rfl (by kernel_rfl) M0.drew (fun _ => trivial) (StabBy.get ?_) ?_ ?_
  · repeat (first | exact trivial | refine ⟨fun _ _ _ _ h => h, ?_⟩)
  · refine ⟨?_, ⟨?_, ⟨?_, ⟨?_, ⟨?_, ⟨?_, ⟨?_, ⟨?_, trivial⟩⟩⟩⟩⟩⟩⟩⟩
    · intro a W ℓ hl hB hS hE hN hD
      obtain ⟨x1, _, _⟩ := hE
      have e1 := x1 (by kernel_rfl)
      refine plan_free rfl ?_
      have k1 := e1
      refine plan_value (v := .pointer (some ⟨w.heap.size, 9, none⟩)) (w' := W) (by go_simp) ⟨_, rfl, hS, trivial, rfl⟩
    · intro a W ℓ hl hB hS hE hN hD
      have k32 : a.tmps.getD 32 undef = .pointer (some ⟨w.heap.size, 9, none⟩) := hD 0 32 (by kernel_rfl)
      refine plan_free rfl ?_
      have cc := hS.src.n
      refine plan_value (v := .int .u64 (e.n : Int)) (w' := W) (by go_simp) ⟨_, rfl, hS, trivial, rfl⟩
    · intro a W ℓ hl hB hS hE hN hD
      obtain ⟨x1, _, _⟩ := hE
      have e1 := x1 (by kernel_rfl)
      refine plan_free rfl ?_
      have k1 := e1
      refine plan_value (v := .pointer (some ⟨w.heap.size, 11, none⟩)) (w' := W) (by go_simp) ⟨_, rfl, hS, trivial, rfl⟩
    · intro a W ℓ hl hB hS hE hN hD
      have k34 : a.tmps.getD 34 undef = .pointer (some ⟨w.heap.size, 11, none⟩) := hD 2 34 (by kernel_rfl)
      refine plan_free rfl ?_
      have cc := hS.src.a
      refine plan_value (v := .int .i64 e.a) (w' := W) (by go_simp) ⟨_, rfl, hS, trivial, rfl⟩
    · intro a W ℓ hl hB hS hE hN hD
      obtain ⟨_, x3, _⟩ := hE
      have e3 := x3 (by kernel_rfl)
      refine plan_free rfl ?_
      have k3 := e3
      refine plan_value (v := .pointer (some ⟨w.heap.size + 1, 9, none⟩)) (w' := W) (by go_simp) ⟨_, rfl, hS, trivial, rfl⟩
    · intro a W ℓ hl hB hS hE hN hD
      have k36 : a.tmps.getD 36 undef = .pointer (some ⟨w.heap.size + 1, 9, none⟩) := hD 4 36 (by kernel_rfl)
      have k33 : a.tmps.getD 33 undef = .int .u64 (e.n : Int) := hD 1 33 (by kernel_rfl)
      refine plan_free rfl ?_
      have cc := hS.own.n
      have ff := hS.own.blk.frozen 9
      refine plan_unit (w' := W.setCell ⟨w.heap.size + 1, 9, none⟩ (.int .u64 (e.n : Int))) (by go_simp) ⟨_, rfl, MB.put_n hS, trivial, trivial⟩
    · intro a W ℓ hl hB hS hE hN hD
      obtain ⟨_, x3, _⟩ := hE
      have e3 := x3 (by kernel_rfl)
      refine plan_free rfl ?_
      have k3 := e3
      refine plan_value (v := .pointer (some ⟨w.heap.size + 1, 11, none⟩)) (w' := W) (by go_simp) ⟨_, rfl, hS, trivial, rfl⟩
    · intro a W ℓ hl hB hS hE hN hD
      have k37 : a.tmps.getD 37 undef = .pointer (some ⟨w.heap.size + 1, 11, none⟩) := hD 6 37 (by kernel_rfl)
      have k35 : a.tmps.getD 35 undef = .int .i64 e.a := hD 3 35 (by kernel_rfl)
      refine plan_free rfl ?_
      have cc := hS.own.a
      have ff := hS.own.blk.frozen 11
      refine plan_unit (w' := W.setCell ⟨w.heap.size + 1, 11, none⟩ (.int .i64 e.a)) (by go_simp) ⟨_, rfl, MB.put_a hS, trivial, trivial⟩
  · intro f w2 ℓ hl V hE
    clear hE
    simp only [setAll, List.setIfInBounds_toArray, List.set_cons_zero, List.set_cons_succ]
    simp only [hl 5 (by simp), hl 7 (by simp)] at V
    clear hl
    have ld1 := V.src.load
    have ld2 := V.own.load
    have HV := Lib.hid V
    clear V
    by_cases hz : evZ e true false true false false
    case neg =>
      have qe : ∀ W, (Op.equalIn 10000 26 (.agg (evA e)) (.agg (evA (keep e true false true false false)))).run Try.prog W = .ok false W := ev_diff OK.out OWN.out (fun x => hz (EQZ.out.1 x))
      have HZ : Hid (decide (evZ e true false true false false) = false) := decide_eq_false hz
      clear hz
      go_wp2_with fail
      go_ret
      exact ⟨by rw [HZ.out]; rfl, HV.out.bel⟩
    case pos =>
      have qe : ∀ W, (Op.equalIn 10000 26 (.agg (evA e)) (.agg (evA (keep e true false true false false)))).run Try.prog W = .ok true W := by rw [← EQZ.out.2 hz]; exact ev_same OK.out
      have HZ : Hid (decide (evZ e true false true false false) = true) := decide_eq_true hz
      clear hz
      cases hT0 : amtE e.a 1
      case false =>
        rw [hT0] at AM
        have B0 := Lib.hid hT0
        clear hT0
        go_wp2_with fail
        refine (AM.out _).mono ?_
        rintro _ v1 ⟨rfl, hb⟩
        have HV1 := Lib.hid (HV.out.next hb)
        clear hb
        have le1 := HV1.out.src.load
        go_wp2_with fail
        go_ret
        exact ⟨by rw [HZ.out, B0.out]; rfl, HV1.out.bel⟩
      case true =>
        rw [hT0] at AM
        have B0 := Lib.hid hT0
        clear hT0
        go_wp2_with fail
        refine (AM.out _).mono ?_
        rintro _ v1 ⟨rfl, hb⟩
        have HV1 := Lib.hid (HV.out.next hb)
        clear hb
        have le1 := HV1.out.src.load
        go_wp2_with fail
        go_ret
        exact ⟨by rw [HZ.out, B0.out]; rfl, HV1.out.bel⟩
set_option maxRecDepth 100000 in
set_option maxHeartbeats 1000000 in
theorem mf_3 (e : Ev) (h : e.ok) (hk : e.k = 3) (w : World) : Calls Try.prog 58 #[.agg (evA e)] w fun x w' => x = .returned (.bool (decide (evZ e true false true true false) && (amtE e.a 1 && (!(e.r == 0))))) ∧ Below w.heap.size w w' := by
  have M0 := MB.first (w := w) h.d6
  have c0 := (EB.new w h.d6).o
  have c1 := (EB.new w h.d6).s
  have c2 := run_loadV_mid h.d6 (EB.new w h.d6).dl
  have c3 := (EB.new w h.d6).k
  have bE := run_buildE4 e h.d6
  have aE := run_allocE
  have sE := run_storeE_new (e := headE e) h.d6 (w.alloc (.cells (evA e) 26))
  rw [show (w.alloc (.cells (evA e) 26)).heap.size = w.heap.size + 1 by simp] at sE
  have c4 := M0.src.k
  have q1 : ((e.k : Int) == 1) = false := by rw [hk]; rfl
  have q2 : ((e.k : Int) == 2) = false := by rw [hk]; rfl
  have q3 : ((e.k : Int) == 3) = true := by rw [hk]; rfl
  have OK := Lib.hid h
  have OWN := Lib.hid (keep_ok (n := true) (t := false) (a := true) (r := true) (f := false) h)
  have EQZ := Lib.hid (keep_eq e true false true true false)
  have AM := Lib.hid (amount_any e h.d6 1)
  have HM0 := Lib.hid M0
  clear h hk M0
  generalize (e.k : Int) = kz at c3 bE c4 q1 q2 q3
  go_enter Try.func58, Try.ntmps58
  go_wp2_with fail
  clear c0 c1 c2 c3 bE aE sE c4
  have M0 := HM0.out
  clear HM0
  refine wp_region_by (fun ℓ W => MB w W e (ℓ 7) false (ℓ 9) (ℓ 11) false) (fun _ _ => True) [IsV (.pointer (some ⟨w.heap.size, 9, none⟩)), IsV (.int .u64 (e.n : Int)), IsV (.pointer (some ⟨w.heap.size, 11, none⟩)), IsV (.int .i64 e.a), IsV (.pointer (some ⟨w.heap.size, 12, none⟩)), IsV (.int .u64 (e.r : Int)), IsV (.pointer (some ⟨w.heap.size + 1, 9, none⟩)), fun _ _ => True, IsV (.pointer (some ⟨w.heap.size + 1, 11, none⟩)), fun _ _ => True, IsV (.pointer (some ⟨w.heap.size + 1, 12, none⟩)), fun _ _ => True] ([(1, .pointer (some ⟨w.heap.size, 0, none⟩)), (3, .pointer (some ⟨w.heap.size + 1, 0, none⟩))] : List (Nat × Value)) (⟨rfl, rfl, trivial⟩) (n := 135) (by kernel_rfl) rfl (by kernel_rfl) M0.drew (fun _ => trivial) (StabBy.get ?_) ?_ ?_
  · repeat (first | exact trivial | refine ⟨fun _ _ _ _ h => h, ?_⟩)
  · refine ⟨?_, ⟨?_, ⟨?_, ⟨?_, ⟨?_, ⟨?_, ⟨?_, ⟨?_, ⟨?_, ⟨?_, ⟨?_, ⟨?_, trivial⟩⟩⟩⟩⟩⟩⟩⟩⟩⟩⟩⟩
    · intro a W ℓ hl hB hS hE hN hD
      obtain ⟨x1, _, _⟩ := hE
      have e1 := x1 (by kernel_rfl)
      refine plan_free rfl ?_
      have k1 := e1
      refine plan_value (v := .pointer (some ⟨w.heap.size, 9, none⟩)) (w' := W) (by go_simp) ⟨_, rfl, hS, trivial, rfl⟩
    · intro a W ℓ hl hB hS hE hN hD
      have k47 : a.tmps.getD 47 undef = .pointer (some ⟨w.heap.size, 9, none⟩) := hD 0 47 (by kernel_rfl)
      refine plan_free rfl ?_
      have cc := hS.src.n
      refine plan_value (v := .int .u64 (e.n : Int)) (w' := W) (by go_simp) ⟨_, rfl, hS, trivial, rfl⟩
    · intro a W ℓ hl hB hS hE hN hD
      obtain ⟨x1, _, _⟩ := hE
      have e1 := x1 (by kernel_rfl)
      refine plan_free rfl ?_
      have k1 := e1
      refine plan_value (v := .pointer (some ⟨w.heap.size, 11, none⟩)) (w' := W) (by go_simp) ⟨_, rfl, hS, trivial, rfl⟩
    · intro a W ℓ hl hB hS hE hN hD
      have k49 : a.tmps.getD 49 undef = .pointer (some ⟨w.heap.size, 11, none⟩) := hD 2 49 (by kernel_rfl)
      refine plan_free rfl ?_
      have cc := hS.src.a
      refine plan_value (v := .int .i64 e.a) (w' := W) (by go_simp) ⟨_, rfl, hS, trivial, rfl⟩
    · intro a W ℓ hl hB hS hE hN hD
      obtain ⟨x1, _, _⟩ := hE
      have e1 := x1 (by kernel_rfl)
      refine plan_free rfl ?_
      have k1 := e1
      refine plan_value (v := .pointer (some ⟨w.heap.size, 12, none⟩)) (w' := W) (by go_simp) ⟨_, rfl, hS, trivial, rfl⟩
    · intro a W ℓ hl hB hS hE hN hD
      have k51 : a.tmps.getD 51 undef = .pointer (some ⟨w.heap.size, 12, none⟩) := hD 4 51 (by kernel_rfl)
      refine plan_free rfl ?_
      have cc := hS.src.r
      refine plan_value (v := .int .u64 (e.r : Int)) (w' := W) (by go_simp) ⟨_, rfl, hS, trivial, rfl⟩
    · intro a W ℓ hl hB hS hE hN hD
      obtain ⟨_, x3, _⟩ := hE
      have e3 := x3 (by kernel_rfl)
      refine plan_free rfl ?_
      have k3 := e3
      refine plan_value (v := .pointer (some ⟨w.heap.size + 1, 9, none⟩)) (w' := W) (by go_simp) ⟨_, rfl, hS, trivial, rfl⟩
    · intro a W ℓ hl hB hS hE hN hD
      have k53 : a.tmps.getD 53 undef = .pointer (some ⟨w.heap.size + 1, 9, none⟩) := hD 6 53 (by kernel_rfl)
      have k48 : a.tmps.getD 48 undef = .int .u64 (e.n : Int) := hD 1 48 (by kernel_rfl)
      refine plan_free rfl ?_
      have cc := hS.own.n
      have ff := hS.own.blk.frozen 9
      refine plan_unit (w' := W.setCell ⟨w.heap.size + 1, 9, none⟩ (.int .u64 (e.n : Int))) (by go_simp) ⟨_, rfl, MB.put_n hS, trivial, trivial⟩
    · intro a W ℓ hl hB hS hE hN hD
      obtain ⟨_, x3, _⟩ := hE
      have e3 := x3 (by kernel_rfl)
      refine plan_free rfl ?_
      have k3 := e3
      refine plan_value (v := .pointer (some ⟨w.heap.size + 1, 11, none⟩)) (w' := W) (by go_simp) ⟨_, rfl, hS, trivial, rfl⟩
    · intro a W ℓ hl hB hS hE hN hD
      have k54 : a.tmps.getD 54 undef = .pointer (some ⟨w.heap.size + 1, 11, none⟩) := hD 8 54 (by kernel_rfl)
      have k50 : a.tmps.getD 50 undef = .int .i64 e.a := hD 3 50 (by kernel_rfl)
      refine plan_free rfl ?_
      have cc := hS.own.a
      have ff := hS.own.blk.frozen 11
      refine plan_unit (w' := W.setCell ⟨w.heap.size + 1, 11, none⟩ (.int .i64 e.a)) (by go_simp) ⟨_, rfl, MB.put_a hS, trivial, trivial⟩
    · intro a W ℓ hl hB hS hE hN hD
      obtain ⟨_, x3, _⟩ := hE
      have e3 := x3 (by kernel_rfl)
      refine plan_free rfl ?_
      have k3 := e3
      refine plan_value (v := .pointer (some ⟨w.heap.size + 1, 12, none⟩)) (w' := W) (by go_simp) ⟨_, rfl, hS, trivial, rfl⟩
    · intro a W ℓ hl hB hS hE hN hD
      have k55 : a.tmps.getD 55 undef = .pointer (some ⟨w.heap.size + 1, 12, none⟩) := hD 10 55 (by kernel_rfl)
      have k52 : a.tmps.getD 52 undef = .int .u64 (e.r : Int) := hD 5 52 (by kernel_rfl)
      refine plan_free rfl ?_
      have cc := hS.own.r
      have ff := hS.own.blk.frozen 12
      refine plan_unit (w' := W.setCell ⟨w.heap.size + 1, 12, none⟩ (.int .u64 (e.r : Int))) (by go_simp) ⟨_, rfl, MB.put_r hS, trivial, trivial⟩
  · intro f w2 ℓ hl V hE
    clear hE
    simp only [setAll, List.setIfInBounds_toArray, List.set_cons_zero, List.set_cons_succ]
    simp only [hl 7 (by simp), hl 9 (by simp), hl 11 (by simp)] at V
    clear hl
    have ld1 := V.src.load
    have ld2 := V.own.load
    have HV := Lib.hid V
    clear V
    by_cases hz : evZ e true false true true false
    case neg =>
      have qe : ∀ W, (Op.equalIn 10000 26 (.agg (evA e)) (.agg (evA (keep e true false true true false)))).run Try.prog W = .ok false W := ev_diff OK.out OWN.out (fun x => hz (EQZ.out.1 x))
      have HZ : Hid (decide (evZ e true false true true false) = false) := decide_eq_false hz
      clear hz
      go_wp2_with fail
      go_ret
      exact ⟨by rw [HZ.out]; rfl, HV.out.bel⟩
    case pos =>
      have qe : ∀ W, (Op.equalIn 10000 26 (.agg (evA e)) (.agg (evA (keep e true false true true false)))).run Try.prog W = .ok true W := by rw [← EQZ.out.2 hz]; exact ev_same OK.out
      have HZ : Hid (decide (evZ e true false true true false) = true) := decide_eq_true hz
      clear hz
      cases hT0 : amtE e.a 1
      case false =>
        rw [hT0] at AM
        have B0 := Lib.hid hT0
        clear hT0
        go_wp2_with fail
        refine (AM.out _).mono ?_
        rintro _ v1 ⟨rfl, hb⟩
        have HV1 := Lib.hid (HV.out.next hb)
        clear hb
        have le1 := HV1.out.src.load
        go_wp2_with fail
        go_ret
        exact ⟨by rw [HZ.out, B0.out]; rfl, HV1.out.bel⟩
      case true =>
        rw [hT0] at AM
        have B0 := Lib.hid hT0
        clear hT0
        by_cases hT1 : e.r = 0
        case pos =>
          have B1 : Hid ((e.r == 0) = true) := by show _ = _; simpa using hT1
          have z1 : ((e.r : Int) != 0) = false := by have : e.r = 0 := hT1; simp; omega
          clear hT1
          have cr := HV.out.src.r
          go_wp2_with fail
          refine (AM.out _).mono ?_
          rintro _ v1 ⟨rfl, hb⟩
          have HV1 := Lib.hid (HV.out.next hb)
          clear hb
          have le1 := HV1.out.src.load
          have cr1 := HV1.out.src.r
          go_wp2_with fail
          go_ret
          exact ⟨by rw [HZ.out, B0.out, B1.out]; rfl, HV1.out.bel⟩
        case neg =>
          have B1 : Hid ((e.r == 0) = false) := by show _ = _; simpa using hT1
          have z1 : ((e.r : Int) != 0) = true := by have : ¬ e.r = 0 := hT1; simp; omega
          clear hT1
          have cr := HV.out.src.r
          go_wp2_with fail
          refine (AM.out _).mono ?_
          rintro _ v1 ⟨rfl, hb⟩
          have HV1 := Lib.hid (HV.out.next hb)
          clear hb
          have le1 := HV1.out.src.load
          have cr1 := HV1.out.src.r
          go_wp2_with fail
          go_ret
          exact ⟨by rw [HZ.out, B0.out, B1.out]; rfl, HV1.out.bel⟩
set_option maxRecDepth 100000 in
set_option maxHeartbeats 1000000 in
theorem mf_4 (e : Ev) (h : e.ok) (hk : e.k = 4) (w : World) : Calls Try.prog 58 #[.agg (evA e)] w fun x w' => x = .returned (.bool (decide (evZ e false false false true true) && (!(e.r == 0) && (!(e.f == 0) && (!(e.r == e.f)))))) ∧ Below w.heap.size w w' := by
  have M0 := MB.first (w := w) h.d6
  have c0 := (EB.new w h.d6).o
  have c1 := (EB.new w h.d6).s
  have c2 := run_loadV_mid h.d6 (EB.new w h.d6).dl
  have c3 := (EB.new w h.d6).k
  have bE := run_buildE4 e h.d6
  have aE := run_allocE
  have sE := run_storeE_new (e := headE e) h.d6 (w.alloc (.cells (evA e) 26))
  rw [show (w.alloc (.cells (evA e) 26)).heap.size = w.heap.size + 1 by simp] at sE
  have c4 := M0.src.k
  have q1 : ((e.k : Int) == 1) = false := by rw [hk]; rfl
  have q2 : ((e.k : Int) == 2) = false := by rw [hk]; rfl
  have q3 : ((e.k : Int) == 3) = false := by rw [hk]; rfl
  have q4 : ((e.k : Int) == 4) = true := by rw [hk]; rfl
  have OK := Lib.hid h
  have OWN := Lib.hid (keep_ok (n := false) (t := false) (a := false) (r := true) (f := true) h)
  have EQZ := Lib.hid (keep_eq e false false false true true)
  have HM0 := Lib.hid M0
  clear h hk M0
  generalize (e.k : Int) = kz at c3 bE c4 q1 q2 q3 q4
  go_enter Try.func58, Try.ntmps58
  go_wp2_with fail
  clear c0 c1 c2 c3 bE aE sE c4
  have M0 := HM0.out
  clear HM0
  refine wp_region_by (fun ℓ W => MB w W e false false false (ℓ 5) (ℓ 7)) (fun _ _ => True) [IsV (.pointer (some ⟨w.heap.size, 12, none⟩)), IsV (.int .u64 (e.r : Int)), IsV (.pointer (some ⟨w.heap.size, 13, none⟩)), IsV (.int .u64 (e.f : Int)), IsV (.pointer (some ⟨w.heap.size + 1, 12, none⟩)), fun _ _ => True, IsV (.pointer (some ⟨w.heap.size + 1, 13, none⟩)), fun _ _ => True] ([(1, .pointer (some ⟨w.heap.size, 0, none⟩)), (3, .pointer (some ⟨w.heap.size + 1, 0, none⟩))] : List (Nat × Value)) (⟨rfl, rfl, trivial⟩) (n := 135) (by kernel_rfl) rfl (by kernel_rfl) M0.drew (fun _ => trivial) (StabBy.get ?_) ?_ ?_
  · repeat (first | exact trivial | refine ⟨fun _ _ _ _ h => h, ?_⟩)
  · refine ⟨?_, ⟨?_, ⟨?_, ⟨?_, ⟨?_, ⟨?_, ⟨?_, ⟨?_, trivial⟩⟩⟩⟩⟩⟩⟩⟩
    · intro a W ℓ hl hB hS hE hN hD
      obtain ⟨x1, _, _⟩ := hE
      have e1 := x1 (by kernel_rfl)
      refine plan_free rfl ?_
      have k1 := e1
      refine plan_value (v := .pointer (some ⟨w.heap.size, 12, none⟩)) (w' := W) (by go_simp) ⟨_, rfl, hS, trivial, rfl⟩
    · intro a W ℓ hl hB hS hE hN hD
      have k70 : a.tmps.getD 70 undef = .pointer (some ⟨w.heap.size, 12, none⟩) := hD 0 70 (by kernel_rfl)
      refine plan_free rfl ?_
      have cc := hS.src.r
      refine plan_value (v := .int .u64 (e.r : Int)) (w' := W) (by go_simp) ⟨_, rfl, hS, trivial, rfl⟩
    · intro a W ℓ hl hB hS hE hN hD
      obtain ⟨x1, _, _⟩ := hE
      have e1 := x1 (by kernel_rfl)
      refine plan_free rfl ?_
      have k1 := e1
      refine plan_value (v := .pointer (some ⟨w.heap.size, 13, none⟩)) (w' := W) (by go_simp) ⟨_, rfl, hS, trivial, rfl⟩
    · intro a W ℓ hl hB hS hE hN hD
      have k72 : a.tmps.getD 72 undef = .pointer (some ⟨w.heap.size, 13, none⟩) := hD 2 72 (by kernel_rfl)
      refine plan_free rfl ?_
      have cc := hS.src.f
      refine plan_value (v := .int .u64 (e.f : Int)) (w' := W) (by go_simp) ⟨_, rfl, hS, trivial, rfl⟩
    · intro a W ℓ hl hB hS hE hN hD
      obtain ⟨_, x3, _⟩ := hE
      have e3 := x3 (by kernel_rfl)
      refine plan_free rfl ?_
      have k3 := e3
      refine plan_value (v := .pointer (some ⟨w.heap.size + 1, 12, none⟩)) (w' := W) (by go_simp) ⟨_, rfl, hS, trivial, rfl⟩
    · intro a W ℓ hl hB hS hE hN hD
      have k74 : a.tmps.getD 74 undef = .pointer (some ⟨w.heap.size + 1, 12, none⟩) := hD 4 74 (by kernel_rfl)
      have k71 : a.tmps.getD 71 undef = .int .u64 (e.r : Int) := hD 1 71 (by kernel_rfl)
      refine plan_free rfl ?_
      have cc := hS.own.r
      have ff := hS.own.blk.frozen 12
      refine plan_unit (w' := W.setCell ⟨w.heap.size + 1, 12, none⟩ (.int .u64 (e.r : Int))) (by go_simp) ⟨_, rfl, MB.put_r hS, trivial, trivial⟩
    · intro a W ℓ hl hB hS hE hN hD
      obtain ⟨_, x3, _⟩ := hE
      have e3 := x3 (by kernel_rfl)
      refine plan_free rfl ?_
      have k3 := e3
      refine plan_value (v := .pointer (some ⟨w.heap.size + 1, 13, none⟩)) (w' := W) (by go_simp) ⟨_, rfl, hS, trivial, rfl⟩
    · intro a W ℓ hl hB hS hE hN hD
      have k75 : a.tmps.getD 75 undef = .pointer (some ⟨w.heap.size + 1, 13, none⟩) := hD 6 75 (by kernel_rfl)
      have k73 : a.tmps.getD 73 undef = .int .u64 (e.f : Int) := hD 3 73 (by kernel_rfl)
      refine plan_free rfl ?_
      have cc := hS.own.f
      have ff := hS.own.blk.frozen 13
      refine plan_unit (w' := W.setCell ⟨w.heap.size + 1, 13, none⟩ (.int .u64 (e.f : Int))) (by go_simp) ⟨_, rfl, MB.put_f hS, trivial, trivial⟩
  · intro f w2 ℓ hl V hE
    clear hE
    simp only [setAll, List.setIfInBounds_toArray, List.set_cons_zero, List.set_cons_succ]
    simp only [hl 5 (by simp), hl 7 (by simp)] at V
    clear hl
    have ld1 := V.src.load
    have ld2 := V.own.load
    have HV := Lib.hid V
    clear V
    by_cases hz : evZ e false false false true true
    case neg =>
      have qe : ∀ W, (Op.equalIn 10000 26 (.agg (evA e)) (.agg (evA (keep e false false false true true)))).run Try.prog W = .ok false W := ev_diff OK.out OWN.out (fun x => hz (EQZ.out.1 x))
      have HZ : Hid (decide (evZ e false false false true true) = false) := decide_eq_false hz
      clear hz
      go_wp2_with fail
      go_ret
      exact ⟨by rw [HZ.out]; rfl, HV.out.bel⟩
    case pos =>
      have qe : ∀ W, (Op.equalIn 10000 26 (.agg (evA e)) (.agg (evA (keep e false false false true true)))).run Try.prog W = .ok true W := by rw [← EQZ.out.2 hz]; exact ev_same OK.out
      have HZ : Hid (decide (evZ e false false false true true) = true) := decide_eq_true hz
      clear hz
      by_cases hT0 : e.r = 0
      case pos =>
        have B0 : Hid ((e.r == 0) = true) := by show _ = _; simpa using hT0
        have z0 : ((e.r : Int) != 0) = false := by have : e.r = 0 := hT0; simp; omega
        clear hT0
        have cr := HV.out.src.r
        go_wp2_with fail
        go_ret
        exact ⟨by rw [HZ.out, B0.out]; rfl, HV.out.bel⟩
      case neg =>
        have B0 : Hid ((e.r == 0) = false) := by show _ = _; simpa using hT0
        have z0 : ((e.r : Int) != 0) = true := by have : ¬ e.r = 0 := hT0; simp; omega
        clear hT0
        by_cases hT1 : e.f = 0
        case pos =>
          have B1 : Hid ((e.f == 0) = true) := by show _ = _; simpa using hT1
          have z1 : ((e.f : Int) != 0) = false := by have : e.f = 0 := hT1; simp; omega
          clear hT1
          have cr := HV.out.src.r
          have cf := HV.out.src.f
          go_wp2_with fail
          go_ret
          exact ⟨by rw [HZ.out, B0.out, B1.out]; rfl, HV.out.bel⟩
        case neg =>
          have B1 : Hid ((e.f == 0) = false) := by show _ = _; simpa using hT1
          have z1 : ((e.f : Int) != 0) = true := by have : ¬ e.f = 0 := hT1; simp; omega
          clear hT1
          by_cases hT2 : e.r = e.f
          case pos =>
            have B2 : Hid ((e.r == e.f) = true) := by show _ = _; simpa using hT2
            have z2 : ((e.r : Int) != (e.f : Int)) = false := by have : e.r = e.f := hT2; simp; omega
            clear hT2
            have cr := HV.out.src.r
            have cf := HV.out.src.f
            go_wp2_with fail
            go_ret
            exact ⟨by rw [HZ.out, B0.out, B1.out, B2.out]; rfl, HV.out.bel⟩
          case neg =>
            have B2 : Hid ((e.r == e.f) = false) := by show _ = _; simpa using hT2
            have z2 : ((e.r : Int) != (e.f : Int)) = true := by have : ¬ e.r = e.f := hT2; simp; omega
            clear hT2
            have cr := HV.out.src.r
            have cf := HV.out.src.f
            go_wp2_with fail
            go_ret
            exact ⟨by rw [HZ.out, B0.out, B1.out, B2.out]; rfl, HV.out.bel⟩
set_option maxRecDepth 100000 in
set_option maxHeartbeats 1000000 in
theorem mf_5 (e : Ev) (h : e.ok) (hk : e.k = 5) (w : World) : Calls Try.prog 58 #[.agg (evA e)] w fun x w' => x = .returned (.bool (decide (evZ e true true true false false) && (amtE e.a 1 && (othE e)))) ∧ Below w.heap.size w w' := by
  have M0 := MB.first (w := w) h.d6
  have c0 := (EB.new w h.d6).o
  have c1 := (EB.new w h.d6).s
  have c2 := run_loadV_mid h.d6 (EB.new w h.d6).dl
  have c3 := (EB.new w h.d6).k
  have bE := run_buildE4 e h.d6
  have aE := run_allocE
  have sE := run_storeE_new (e := headE e) h.d6 (w.alloc (.cells (evA e) 26))
  rw [show (w.alloc (.cells (evA e) 26)).heap.size = w.heap.size + 1 by simp] at sE
  have c4 := M0.src.k
  have q1 : ((e.k : Int) == 1) = false := by rw [hk]; rfl
  have q2 : ((e.k : Int) == 2) = false := by rw [hk]; rfl
  have q3 : ((e.k : Int) == 3) = false := by rw [hk]; rfl
  have q4 : ((e.k : Int) == 4) = false := by rw [hk]; rfl
  have q5 : ((e.k : Int) == 5) = true := by rw [hk]; rfl
  have OK := Lib.hid h
  have OWN := Lib.hid (keep_ok (n := true) (t := true) (a := true) (r := false) (f := false) h)
  have EQZ := Lib.hid (keep_eq e true true true false false)
  have AM := Lib.hid (amount_any e h.d6 1)
  have OT := Lib.hid (other_any e h.d6)
  have HM0 := Lib.hid M0
  clear h hk M0
  generalize (e.k : Int) = kz at c3 bE c4 q1 q2 q3 q4 q5
  go_enter Try.func58, Try.ntmps58
  go_wp2_with fail
  clear c0 c1 c2 c3 bE aE sE c4
  have M0 := HM0.out
  clear HM0
  refine wp_region_by (fun ℓ W => MB w W e (ℓ 7) (ℓ 11) (ℓ 9) false false) (fun _ _ => True) [IsV (.pointer (some ⟨w.heap.size, 9, none⟩)), IsV (.int .u64 (e.n : Int)), IsV (.pointer (some ⟨w.heap.size, 11, none⟩)), IsV (.int .i64 e.a), IsV (.pointer (some ⟨w.heap.size, 10, none⟩)), IsV (.int .i64 e.t), IsV (.pointer (some ⟨w.heap.size + 1, 9, none⟩)), fun _ _ => True, IsV (.pointer (some ⟨w.heap.size + 1, 11, none⟩)), fun _ _ => True, IsV (.pointer (some ⟨w.heap.size + 1, 10, none⟩)), fun _ _ => True] ([(1, .pointer (some ⟨w.heap.size, 0, none⟩)), (3, .pointer (some ⟨w.heap.size + 1, 0, none⟩))] : List (Nat × Value)) (⟨rfl, rfl, trivial⟩) (n := 135) (by kernel_rfl) rfl (by kernel_rfl) M0.drew (fun _ => trivial) (StabBy.get ?_) ?_ ?_
  · repeat (first | exact trivial | refine ⟨fun _ _ _ _ h => h, ?_⟩)
  · refine ⟨?_, ⟨?_, ⟨?_, ⟨?_, ⟨?_, ⟨?_, ⟨?_, ⟨?_, ⟨?_, ⟨?_, ⟨?_, ⟨?_, trivial⟩⟩⟩⟩⟩⟩⟩⟩⟩⟩⟩⟩
    · intro a W ℓ hl hB hS hE hN hD
      obtain ⟨x1, _, _⟩ := hE
      have e1 := x1 (by kernel_rfl)
      refine plan_free rfl ?_
      have k1 := e1
      refine plan_value (v := .pointer (some ⟨w.heap.size, 9, none⟩)) (w' := W) (by go_simp) ⟨_, rfl, hS, trivial, rfl⟩
    · intro a W ℓ hl hB hS hE hN hD
      have k98 : a.tmps.getD 98 undef = .pointer (some ⟨w.heap.size, 9, none⟩) := hD 0 98 (by kernel_rfl)
      refine plan_free rfl ?_
      have cc := hS.src.n
      refine plan_value (v := .int .u64 (e.n : Int)) (w' := W) (by go_simp) ⟨_, rfl, hS, trivial, rfl⟩
    · intro a W ℓ hl hB hS hE hN hD
      obtain ⟨x1, _, _⟩ := hE
      have e1 := x1 (by kernel_rfl)
      refine plan_free rfl ?_
      have k1 := e1
      refine plan_value (v := .pointer (some ⟨w.heap.size, 11, none⟩)) (w' := W) (by go_simp) ⟨_, rfl, hS, trivial, rfl⟩
    · intro a W ℓ hl hB hS hE hN hD
      have k100 : a.tmps.getD 100 undef = .pointer (some ⟨w.heap.size, 11, none⟩) := hD 2 100 (by kernel_rfl)
      refine plan_free rfl ?_
      have cc := hS.src.a
      refine plan_value (v := .int .i64 e.a) (w' := W) (by go_simp) ⟨_, rfl, hS, trivial, rfl⟩
    · intro a W ℓ hl hB hS hE hN hD
      obtain ⟨x1, _, _⟩ := hE
      have e1 := x1 (by kernel_rfl)
      refine plan_free rfl ?_
      have k1 := e1
      refine plan_value (v := .pointer (some ⟨w.heap.size, 10, none⟩)) (w' := W) (by go_simp) ⟨_, rfl, hS, trivial, rfl⟩
    · intro a W ℓ hl hB hS hE hN hD
      have k102 : a.tmps.getD 102 undef = .pointer (some ⟨w.heap.size, 10, none⟩) := hD 4 102 (by kernel_rfl)
      refine plan_free rfl ?_
      have cc := hS.src.t
      refine plan_value (v := .int .i64 e.t) (w' := W) (by go_simp) ⟨_, rfl, hS, trivial, rfl⟩
    · intro a W ℓ hl hB hS hE hN hD
      obtain ⟨_, x3, _⟩ := hE
      have e3 := x3 (by kernel_rfl)
      refine plan_free rfl ?_
      have k3 := e3
      refine plan_value (v := .pointer (some ⟨w.heap.size + 1, 9, none⟩)) (w' := W) (by go_simp) ⟨_, rfl, hS, trivial, rfl⟩
    · intro a W ℓ hl hB hS hE hN hD
      have k104 : a.tmps.getD 104 undef = .pointer (some ⟨w.heap.size + 1, 9, none⟩) := hD 6 104 (by kernel_rfl)
      have k99 : a.tmps.getD 99 undef = .int .u64 (e.n : Int) := hD 1 99 (by kernel_rfl)
      refine plan_free rfl ?_
      have cc := hS.own.n
      have ff := hS.own.blk.frozen 9
      refine plan_unit (w' := W.setCell ⟨w.heap.size + 1, 9, none⟩ (.int .u64 (e.n : Int))) (by go_simp) ⟨_, rfl, MB.put_n hS, trivial, trivial⟩
    · intro a W ℓ hl hB hS hE hN hD
      obtain ⟨_, x3, _⟩ := hE
      have e3 := x3 (by kernel_rfl)
      refine plan_free rfl ?_
      have k3 := e3
      refine plan_value (v := .pointer (some ⟨w.heap.size + 1, 11, none⟩)) (w' := W) (by go_simp) ⟨_, rfl, hS, trivial, rfl⟩
    · intro a W ℓ hl hB hS hE hN hD
      have k105 : a.tmps.getD 105 undef = .pointer (some ⟨w.heap.size + 1, 11, none⟩) := hD 8 105 (by kernel_rfl)
      have k101 : a.tmps.getD 101 undef = .int .i64 e.a := hD 3 101 (by kernel_rfl)
      refine plan_free rfl ?_
      have cc := hS.own.a
      have ff := hS.own.blk.frozen 11
      refine plan_unit (w' := W.setCell ⟨w.heap.size + 1, 11, none⟩ (.int .i64 e.a)) (by go_simp) ⟨_, rfl, MB.put_a hS, trivial, trivial⟩
    · intro a W ℓ hl hB hS hE hN hD
      obtain ⟨_, x3, _⟩ := hE
      have e3 := x3 (by kernel_rfl)
      refine plan_free rfl ?_
      have k3 := e3
      refine plan_value (v := .pointer (some ⟨w.heap.size + 1, 10, none⟩)) (w' := W) (by go_simp) ⟨_, rfl, hS, trivial, rfl⟩
    · intro a W ℓ hl hB hS hE hN hD
      have k106 : a.tmps.getD 106 undef = .pointer (some ⟨w.heap.size + 1, 10, none⟩) := hD 10 106 (by kernel_rfl)
      have k103 : a.tmps.getD 103 undef = .int .i64 e.t := hD 5 103 (by kernel_rfl)
      refine plan_free rfl ?_
      have cc := hS.own.t
      have ff := hS.own.blk.frozen 10
      refine plan_unit (w' := W.setCell ⟨w.heap.size + 1, 10, none⟩ (.int .i64 e.t)) (by go_simp) ⟨_, rfl, MB.put_t hS, trivial, trivial⟩
  · intro f w2 ℓ hl V hE
    clear hE
    simp only [setAll, List.setIfInBounds_toArray, List.set_cons_zero, List.set_cons_succ]
    simp only [hl 7 (by simp), hl 9 (by simp), hl 11 (by simp)] at V
    clear hl
    have ld1 := V.src.load
    have ld2 := V.own.load
    have HV := Lib.hid V
    clear V
    by_cases hz : evZ e true true true false false
    case neg =>
      have qe : ∀ W, (Op.equalIn 10000 26 (.agg (evA e)) (.agg (evA (keep e true true true false false)))).run Try.prog W = .ok false W := ev_diff OK.out OWN.out (fun x => hz (EQZ.out.1 x))
      have HZ : Hid (decide (evZ e true true true false false) = false) := decide_eq_false hz
      clear hz
      go_wp2_with fail
      go_ret
      exact ⟨by rw [HZ.out]; rfl, HV.out.bel⟩
    case pos =>
      have qe : ∀ W, (Op.equalIn 10000 26 (.agg (evA e)) (.agg (evA (keep e true true true false false)))).run Try.prog W = .ok true W := by rw [← EQZ.out.2 hz]; exact ev_same OK.out
      have HZ : Hid (decide (evZ e true true true false false) = true) := decide_eq_true hz
      clear hz
      cases hT0 : amtE e.a 1
      case false =>
        rw [hT0] at AM
        have B0 := Lib.hid hT0
        clear hT0
        go_wp2_with fail
        refine (AM.out _).mono ?_
        rintro _ v1 ⟨rfl, hb⟩
        have HV1 := Lib.hid (HV.out.next hb)
        clear hb
        have le1 := HV1.out.src.load
        go_wp2_with fail
        go_ret
        exact ⟨by rw [HZ.out, B0.out]; rfl, HV1.out.bel⟩
      case true =>
        rw [hT0] at AM
        have B0 := Lib.hid hT0
        clear hT0
        cases hT1 : othE e
        case false =>
          rw [hT1] at OT
          have B1 := Lib.hid hT1
          clear hT1
          go_wp2_with fail
          refine (AM.out _).mono ?_
          rintro _ v1 ⟨rfl, hb⟩
          have HV1 := Lib.hid (HV.out.next hb)
          clear hb
          have le1 := HV1.out.src.load
          go_wp2_with fail
          refine (OT.out _).mono ?_
          rintro _ v2 ⟨rfl, hb⟩
          have HV2 := Lib.hid (HV1.out.next hb)
          clear hb
          have le2 := HV2.out.src.load
          go_wp2_with fail
          go_ret
          exact ⟨by rw [HZ.out, B0.out, B1.out]; rfl, HV2.out.bel⟩
        case true =>
          rw [hT1] at OT
          have B1 := Lib.hid hT1
          clear hT1
          go_wp2_with fail
          refine (AM.out _).mono ?_
          rintro _ v1 ⟨rfl, hb⟩
          have HV1 := Lib.hid (HV.out.next hb)
          clear hb
          have le1 := HV1.out.src.load
          go_wp2_with fail
          refine (OT.out _).mono ?_
          rintro _ v2 ⟨rfl, hb⟩
          have HV2 := Lib.hid (HV1.out.next hb)
          clear hb
          have le2 := HV2.out.src.load
          go_wp2_with fail
          go_ret
          exact ⟨by rw [HZ.out, B0.out, B1.out]; rfl, HV2.out.bel⟩
set_option maxRecDepth 100000 in
set_option maxHeartbeats 1000000 in
theorem mf_6 (e : Ev) (h : e.ok) (hk : e.k = 6) (w : World) : Calls Try.prog 58 #[.agg (evA e)] w fun x w' => x = .returned (.bool (decide (evZ e false true false false false) && (othE e))) ∧ Below w.heap.size w w' := by
  have M0 := MB.first (w := w) h.d6
  have c0 := (EB.new w h.d6).o
  have c1 := (EB.new w h.d6).s
  have c2 := run_loadV_mid h.d6 (EB.new w h.d6).dl
  have c3 := (EB.new w h.d6).k
  have bE := run_buildE4 e h.d6
  have aE := run_allocE
  have sE := run_storeE_new (e := headE e) h.d6 (w.alloc (.cells (evA e) 26))
  rw [show (w.alloc (.cells (evA e) 26)).heap.size = w.heap.size + 1 by simp] at sE
  have c4 := M0.src.k
  have q1 : ((e.k : Int) == 1) = false := by rw [hk]; rfl
  have q2 : ((e.k : Int) == 2) = false := by rw [hk]; rfl
  have q3 : ((e.k : Int) == 3) = false := by rw [hk]; rfl
  have q4 : ((e.k : Int) == 4) = false := by rw [hk]; rfl
  have q5 : ((e.k : Int) == 5) = false := by rw [hk]; rfl
  have q6 : ((e.k : Int) == 6) = true := by rw [hk]; rfl
  have OK := Lib.hid h
  have OWN := Lib.hid (keep_ok (n := false) (t := true) (a := false) (r := false) (f := false) h)
  have EQZ := Lib.hid (keep_eq e false true false false false)
  have OT := Lib.hid (other_any e h.d6)
  have x1 := M0.src.t
  have x2 := M0.own.t
  have x3 := M0.own.blk.frozen 10
  have M1 := MB.made (w := w) h.d6 false true false false false
  have ld1 := M1.src.load
  have ld2 := M1.own.load
  have hk2 := keep_t h.d6 false false false false false
  rw [← head_keep] at hk2
  have M1 := Lib.hid M1
  clear M0
  clear h hk
  generalize (e.k : Int) = kz at c3 bE c4 q1 q2 q3 q4 q5 q6
  go_enter Try.func58, Try.ntmps58
  have HV := M1
  by_cases hz : evZ e false true false false false
  case neg =>
    have qe : ∀ W, (Op.equalIn 10000 26 (.agg (evA e)) (.agg (evA (keep e false true false false false)))).run Try.prog W = .ok false W := ev_diff OK.out OWN.out (fun x => hz (EQZ.out.1 x))
    have HZ : Hid (decide (evZ e false true false false false) = false) := decide_eq_false hz
    clear hz
    go_wp2_with fail
    go_ret
    exact ⟨by rw [HZ.out]; rfl, HV.out.bel⟩
  case pos =>
    have qe : ∀ W, (Op.equalIn 10000 26 (.agg (evA e)) (.agg (evA (keep e false true false false false)))).run Try.prog W = .ok true W := by rw [← EQZ.out.2 hz]; exact ev_same OK.out
    have HZ : Hid (decide (evZ e false true false false false) = true) := decide_eq_true hz
    clear hz
    cases hT0 : othE e
    case false =>
      rw [hT0] at OT
      have B0 := Lib.hid hT0
      clear hT0
      go_wp2_with fail
      refine (OT.out _).mono ?_
      rintro _ v1 ⟨rfl, hb⟩
      have HV1 := Lib.hid (HV.out.next hb)
      clear hb
      have le1 := HV1.out.src.load
      go_wp2_with fail
      go_ret
      exact ⟨by rw [HZ.out]; rfl, HV1.out.bel⟩
    case true =>
      rw [hT0] at OT
      have B0 := Lib.hid hT0
      clear hT0
      go_wp2_with fail
      refine (OT.out _).mono ?_
      rintro _ v1 ⟨rfl, hb⟩
      have HV1 := Lib.hid (HV.out.next hb)
      clear hb
      have le1 := HV1.out.src.load
      go_wp2_with fail
      go_ret
      exact ⟨by rw [HZ.out]; rfl, HV1.out.bel⟩
set_option maxRecDepth 100000 in
set_option maxHeartbeats 1000000 in
theorem mf_7 (e : Ev) (h : e.ok) (hk : e.k = 7) (w : World) : Calls Try.prog 58 #[.agg (evA e)] w fun x w' => x = .returned (.bool (decide (evZ e false false false false false))) ∧ Below w.heap.size w w' := by
  have M0 := MB.first (w := w) h.d6
  have c0 := (EB.new w h.d6).o
  have c1 := (EB.new w h.d6).s
  have c2 := run_loadV_mid h.d6 (EB.new w h.d6).dl
  have c3 := (EB.new w h.d6).k
  have bE := run_buildE4 e h.d6
  have aE := run_allocE
  have sE := run_storeE_new (e := headE e) h.d6 (w.alloc (.cells (evA e) 26))
  rw [show (w.alloc (.cells (evA e) 26)).heap.size = w.heap.size + 1 by simp] at sE
  have c4 := M0.src.k
  have q1 : ((e.k : Int) == 1) = false := by rw [hk]; rfl
  have q2 : ((e.k : Int) == 2) = false := by rw [hk]; rfl
  have q3 : ((e.k : Int) == 3) = false := by rw [hk]; rfl
  have q4 : ((e.k : Int) == 4) = false := by rw [hk]; rfl
  have q5 : ((e.k : Int) == 5) = false := by rw [hk]; rfl
  have q6 : ((e.k : Int) == 6) = false := by rw [hk]; rfl
  have q7 : ((e.k : Int) == 7) = true := by rw [hk]; rfl
  have OK := Lib.hid h
  have OWN := Lib.hid (keep_ok (n := false) (t := false) (a := false) (r := false) (f := false) h)
  have EQZ := Lib.hid (keep_eq e false false false false false)
  have M1 := Lib.hid M0
  have ld1 := M0.src.load
  have ld2 := M0.own.load
  clear M0
  clear h hk
  generalize (e.k : Int) = kz at c3 bE c4 q1 q2 q3 q4 q5 q6 q7
  go_enter Try.func58, Try.ntmps58
  have HV := M1
  by_cases hz : evZ e false false false false false
  case neg =>
    have qe : ∀ W, (Op.equalIn 10000 26 (.agg (evA e)) (.agg (evA (keep e false false false false false)))).run Try.prog W = .ok false W := ev_diff OK.out OWN.out (fun x => hz (EQZ.out.1 x))
    have HZ : Hid (decide (evZ e false false false false false) = false) := decide_eq_false hz
    clear hz
    go_wp2_with fail
    go_ret
    exact ⟨by rw [HZ.out]; rfl, HV.out.bel⟩
  case pos =>
    have qe : ∀ W, (Op.equalIn 10000 26 (.agg (evA e)) (.agg (evA (keep e false false false false false)))).run Try.prog W = .ok true W := by rw [← EQZ.out.2 hz]; exact ev_same OK.out
    have HZ : Hid (decide (evZ e false false false false false) = true) := decide_eq_true hz
    clear hz
    go_wp2_with fail
    go_ret
    exact ⟨by rw [HZ.out]; rfl, HV.out.bel⟩
end Go.Proofs.Ytjihbjjekhncaaa
