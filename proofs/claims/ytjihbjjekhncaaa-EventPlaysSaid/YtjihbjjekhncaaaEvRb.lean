import Derived.Test.YtjihbjjekhncaaaEvG
namespace Go.Proofs.Ytjihbjjekhncaaa
open Go.RowKit
/-! leatref08: whether an event may be. -/
attribute [local go_sem ↓] exec_loadE exec_storeE exec_allocE exec_buildE exec_loadV
theorem rregion6_any (z : Int) (w : World) : Calls Try.prog 59 #[.int .i64 z] w fun e w' => e = .returned (.bool (regE z)) ∧ w = w' := by
  by_cases h1 : 1 ≤ z
  case' neg => have hv : regE z = false := by simp [regE, h1]
  case' pos =>
    by_cases h2 : z ≤ 6
    case' neg => have hv : regE z = false := by simp [regE, h2]
    case' pos => have hv : regE z = true := by simp [regE, h1, h2]
  all_goals
    rw [hv]
    clear hv
    go_enter Try.func59, Try.ntmps59
    go_wp2_with fail
    go_ret
    exact ⟨rfl, rfl⟩
structure MC (w W : World) (e : Ev) (n t a r f : Bool) : Prop where
  src : EB W w.heap.size e
  res : EB W (w.heap.size + 1) E0
  own : EB W (w.heap.size + 2) (keep e n t a r f)
  bel : Below w.heap.size w W
theorem MC.made {w : World} {e : Ev} (h : e.d.length = 6) (n t a r f : Bool) : MC w (((w.alloc (.cells (evA e) 26)).alloc (.cells (evA E0) 26)).alloc (.cells (evA (keep e n t a r f)) 26)) e n t a r f := by
  have h1 : (w.alloc (.cells (evA e) 26)).heap.size = w.heap.size + 1 := by simp
  have h2 : ((w.alloc (.cells (evA e) 26)).alloc (.cells (evA E0) 26)).heap.size = w.heap.size + 2 := by simp
  refine ⟨((EB.new w h).alloc _).alloc _, ?_, ?_, (((Below.refl _ _).alloc (Nat.le_refl _) _).alloc (by simp) _).alloc (by simp; omega) _⟩
  · have := (EB.new (w.alloc (.cells (evA e) 26)) (e := E0) rfl).alloc (.cells (evA (keep e n t a r f)) 26)
    rwa [h1] at this
  · have := EB.new ((w.alloc (.cells (evA e) 26)).alloc (.cells (evA E0) 26)) (e := keep e n t a r f) h
    rwa [h2] at this
theorem retE1 {W : World} {g : Nat} {e : Ev} (h : EB W g e) {fn : Func} {p : Tmp} (hf : fn.results = #[.cell p 26]) (tmps : Array Value) (hp : tmps.getD p undef = .pointer (some ⟨g, 0, none⟩)) :
    (results fn tmps).run Try.prog W = .ok (.agg (evA e)) W :=
  results_cell_row hf tmps W g 26 (evA e) (0, 0) _ hp h.blk Try.underlying26 rfl (infoE_of h.d6)
def ownE (e : Ev) : Ev :=
  if e.k = 1 ∨ e.k = 2 then keep e true false true false false
  else if e.k = 3 then keep e true false true true false
  else if e.k = 4 then keep e false false false true true
  else if e.k = 5 then keep e true true true false false
  else if e.k = 6 then keep e false true false false false
  else keep e false false false false false
def fldE (e : Ev) : Bool :=
  if e.k = 1 then amtE e.a 0
  else if e.k = 2 then amtE e.a 1
  else if e.k = 3 then (amtE e.a 1 && (!(e.r == 0)))
  else if e.k = 4 then (!(e.r == 0) && (!(e.f == 0) && (!(e.r == e.f))))
  else if e.k = 5 then (amtE e.a 1 && othE e)
  else if e.k = 6 then othE e
  else e.k == 7
theorem ownE_ok {e : Ev} (h : e.ok) : (ownE e).ok := by
  unfold ownE
  repeat' split
  all_goals exact keep_ok h
theorem mfE_own (e : Ev) : mfE e = true ↔ e = ownE e ∧ fldE e = true := by
  unfold mfE ownE fldE
  by_cases k1 : e.k = 1
  · simp [k1, keep_eq]
  by_cases k2 : e.k = 2
  · simp [k2, keep_eq]
  by_cases k3 : e.k = 3
  · simp [k3, keep_eq]
  by_cases k4 : e.k = 4
  · simp [k4, keep_eq]
  by_cases k5 : e.k = 5
  · simp [k5, keep_eq]
  by_cases k6 : e.k = 6
  · simp [k6, keep_eq]
  by_cases k7 : e.k = 7
  · simp [k7, keep_eq]
  · simp [k1, k2, k3, k4, k5, k6, k7]
set_option maxRecDepth 100000 in
set_option maxHeartbeats 1000000 in
theorem own_1 (e : Ev) (h : e.ok) (hk : e.k = 1) (w : World) : Calls Try.prog 60 #[.agg (evA e)] w fun x w' => x = .returned (.agg (evA (keep e true false true false false))) ∧ Below w.heap.size w w' := by
  have P0 := EB.new w h.d6
  have P1 := P0.alloc (.cells (evA E0) 26)
  have c0 := P1.o
  have c1 := P1.s
  have c2 := run_loadV_mid h.d6 P1.dl
  have c3 := P1.k
  have bE := run_buildE4 e h.d6
  have aE := run_allocE
  have sE := run_storeE_new (e := headE e) h.d6 ((w.alloc (.cells (evA e) 26)).alloc (.cells (evA E0) 26))
  rw [show ((w.alloc (.cells (evA e) 26)).alloc (.cells (evA E0) 26)).heap.size = w.heap.size + 2 by simp, head_keep] at sE
  rw [head_keep] at bE
  have M0 := MC.made (w := w) h.d6 false false false false false
  have c4 := M0.src.k
  have q1 : ((e.k : Int) == 1) = true := by rw [hk]; rfl
  have s0 := M0.src.n
  have o0 := M0.own.n
  have f0 := M0.own.blk.frozen 9
  have u0 := keep_n h.d6 false false false false false
  have M1 := MC.made (w := w) h.d6 true false false false false
  have s1 := M1.src.a
  have o1 := M1.own.a
  have f1 := M1.own.blk.frozen 11
  have u1 := keep_a h.d6 true false false false false
  have M2 := MC.made (w := w) h.d6 true false true false false
  have le := M2.own.load
  have sR := run_storeE (e := keep e true false true false false) h.d6 M2.res.blk rfl
  have MM := Lib.hid M2
  clear P0 P1 h hk M0 M1 M2
  generalize (e.k : Int) = kz at c3 bE c4 q1
  go_enter Try.func60, Try.ntmps60
  go_wp2_with fail
  exact bodyPost_ret (retE1 (g := w.heap.size + 1) ⟨MM.out.res.blk.row (evA (keep e true false true false false)), MM.out.src.d6⟩ Try.results60 _ rfl) rfl ⟨rfl, below_setRow MM.out.bel (by omega) _⟩
set_option maxRecDepth 100000 in
set_option maxHeartbeats 1000000 in
theorem own_2 (e : Ev) (h : e.ok) (hk : e.k = 2) (w : World) : Calls Try.prog 60 #[.agg (evA e)] w fun x w' => x = .returned (.agg (evA (keep e true false true false false))) ∧ Below w.heap.size w w' := by
  have P0 := EB.new w h.d6
  have P1 := P0.alloc (.cells (evA E0) 26)
  have c0 := P1.o
  have c1 := P1.s
  have c2 := run_loadV_mid h.d6 P1.dl
  have c3 := P1.k
  have bE := run_buildE4 e h.d6
  have aE := run_allocE
  have sE := run_storeE_new (e := headE e) h.d6 ((w.alloc (.cells (evA e) 26)).alloc (.cells (evA E0) 26))
  rw [show ((w.alloc (.cells (evA e) 26)).alloc (.cells (evA E0) 26)).heap.size = w.heap.size + 2 by simp, head_keep] at sE
  rw [head_keep] at bE
  have M0 := MC.made (w := w) h.d6 false false false false false
  have c4 := M0.src.k
  have q1 : ((e.k : Int) == 1) = false := by rw [hk]; rfl
  have q2 : ((e.k : Int) == 2) = true := by rw [hk]; rfl
  have s0 := M0.src.n
  have o0 := M0.own.n
  have f0 := M0.own.blk.frozen 9
  have u0 := keep_n h.d6 false false false false false
  have M1 := MC.made (w := w) h.d6 true false false false false
  have s1 := M1.src.a
  have o1 := M1.own.a
  have f1 := M1.own.blk.frozen 11
  have u1 := keep_a h.d6 true false false false false
  have M2 := MC.made (w := w) h.d6 true false true false false
  have le := M2.own.load
  have sR := run_storeE (e := keep e true false true false false) h.d6 M2.res.blk rfl
  have MM := Lib.hid M2
  clear P0 P1 h hk M0 M1 M2
  generalize (e.k : Int) = kz at c3 bE c4 q1 q2
  go_enter Try.func60, Try.ntmps60
  go_wp2_with fail
  exact bodyPost_ret (retE1 (g := w.heap.size + 1) ⟨MM.out.res.blk.row (evA (keep e true false true false false)), MM.out.src.d6⟩ Try.results60 _ rfl) rfl ⟨rfl, below_setRow MM.out.bel (by omega) _⟩
set_option maxRecDepth 100000 in
set_option maxHeartbeats 1000000 in
theorem own_3 (e : Ev) (h : e.ok) (hk : e.k = 3) (w : World) : Calls Try.prog 60 #[.agg (evA e)] w fun x w' => x = .returned (.agg (evA (keep e true false true true false))) ∧ Below w.heap.size w w' := by
  have P0 := EB.new w h.d6
  have P1 := P0.alloc (.cells (evA E0) 26)
  have c0 := P1.o
  have c1 := P1.s
  have c2 := run_loadV_mid h.d6 P1.dl
  have c3 := P1.k
  have bE := run_buildE4 e h.d6
  have aE := run_allocE
  have sE := run_storeE_new (e := headE e) h.d6 ((w.alloc (.cells (evA e) 26)).alloc (.cells (evA E0) 26))
  rw [show ((w.alloc (.cells (evA e) 26)).alloc (.cells (evA E0) 26)).heap.size = w.heap.size + 2 by simp, head_keep] at sE
  rw [head_keep] at bE
  have M0 := MC.made (w := w) h.d6 false false false false false
  have c4 := M0.src.k
  have q1 : ((e.k : Int) == 1) = false := by rw [hk]; rfl
  have q2 : ((e.k : Int) == 2) = false := by rw [hk]; rfl
  have q3 : ((e.k : Int) == 3) = true := by rw [hk]; rfl
  have s0 := M0.src.n
  have o0 := M0.own.n
  have f0 := M0.own.blk.frozen 9
  have u0 := keep_n h.d6 false false false false false
  have M1 := MC.made (w := w) h.d6 true false false false false
  have s1 := M1.src.a
  have o1 := M1.own.a
  have f1 := M1.own.blk.frozen 11
  have u1 := keep_a h.d6 true false false false false
  have M2 := MC.made (w := w) h.d6 true false true false false
  have s2 := M2.src.r
  have o2 := M2.own.r
  have f2 := M2.own.blk.frozen 12
  have u2 := keep_r h.d6 true false true false false
  have M3 := MC.made (w := w) h.d6 true false true true false
  have le := M3.own.load
  have sR := run_storeE (e := keep e true false true true false) h.d6 M3.res.blk rfl
  have MM := Lib.hid M3
  clear P0 P1 h hk M0 M1 M2 M3
  generalize (e.k : Int) = kz at c3 bE c4 q1 q2 q3
  go_enter Try.func60, Try.ntmps60
  go_wp2_with fail
  exact bodyPost_ret (retE1 (g := w.heap.size + 1) ⟨MM.out.res.blk.row (evA (keep e true false true true false)), MM.out.src.d6⟩ Try.results60 _ rfl) rfl ⟨rfl, below_setRow MM.out.bel (by omega) _⟩
set_option maxRecDepth 100000 in
set_option maxHeartbeats 1000000 in
theorem own_4 (e : Ev) (h : e.ok) (hk : e.k = 4) (w : World) : Calls Try.prog 60 #[.agg (evA e)] w fun x w' => x = .returned (.agg (evA (keep e false false false true true))) ∧ Below w.heap.size w w' := by
  have P0 := EB.new w h.d6
  have P1 := P0.alloc (.cells (evA E0) 26)
  have c0 := P1.o
  have c1 := P1.s
  have c2 := run_loadV_mid h.d6 P1.dl
  have c3 := P1.k
  have bE := run_buildE4 e h.d6
  have aE := run_allocE
  have sE := run_storeE_new (e := headE e) h.d6 ((w.alloc (.cells (evA e) 26)).alloc (.cells (evA E0) 26))
  rw [show ((w.alloc (.cells (evA e) 26)).alloc (.cells (evA E0) 26)).heap.size = w.heap.size + 2 by simp, head_keep] at sE
  rw [head_keep] at bE
  have M0 := MC.made (w := w) h.d6 false false false false false
  have c4 := M0.src.k
  have q1 : ((e.k : Int) == 1) = false := by rw [hk]; rfl
  have q2 : ((e.k : Int) == 2) = false := by rw [hk]; rfl
  have q3 : ((e.k : Int) == 3) = false := by rw [hk]; rfl
  have q4 : ((e.k : Int) == 4) = true := by rw [hk]; rfl
  have s0 := M0.src.r
  have o0 := M0.own.r
  have f0 := M0.own.blk.frozen 12
  have u0 := keep_r h.d6 false false false false false
  have M1 := MC.made (w := w) h.d6 false false false true false
  have s1 := M1.src.f
  have o1 := M1.own.f
  have f1 := M1.own.blk.frozen 13
  have u1 := keep_f h.d6 false false false true false
  have M2 := MC.made (w := w) h.d6 false false false true true
  have le := M2.own.load
  have sR := run_storeE (e := keep e false false false true true) h.d6 M2.res.blk rfl
  have MM := Lib.hid M2
  clear P0 P1 h hk M0 M1 M2
  generalize (e.k : Int) = kz at c3 bE c4 q1 q2 q3 q4
  go_enter Try.func60, Try.ntmps60
  go_wp2_with fail
  exact bodyPost_ret (retE1 (g := w.heap.size + 1) ⟨MM.out.res.blk.row (evA (keep e false false false true true)), MM.out.src.d6⟩ Try.results60 _ rfl) rfl ⟨rfl, below_setRow MM.out.bel (by omega) _⟩
set_option maxRecDepth 100000 in
set_option maxHeartbeats 1000000 in
theorem own_5 (e : Ev) (h : e.ok) (hk : e.k = 5) (w : World) : Calls Try.prog 60 #[.agg (evA e)] w fun x w' => x = .returned (.agg (evA (keep e true true true false false))) ∧ Below w.heap.size w w' := by
  have P0 := EB.new w h.d6
  have P1 := P0.alloc (.cells (evA E0) 26)
  have c0 := P1.o
  have c1 := P1.s
  have c2 := run_loadV_mid h.d6 P1.dl
  have c3 := P1.k
  have bE := run_buildE4 e h.d6
  have aE := run_allocE
  have sE := run_storeE_new (e := headE e) h.d6 ((w.alloc (.cells (evA e) 26)).alloc (.cells (evA E0) 26))
  rw [show ((w.alloc (.cells (evA e) 26)).alloc (.cells (evA E0) 26)).heap.size = w.heap.size + 2 by simp, head_keep] at sE
  rw [head_keep] at bE
  have M0 := MC.made (w := w) h.d6 false false false false false
  have c4 := M0.src.k
  have q1 : ((e.k : Int) == 1) = false := by rw [hk]; rfl
  have q2 : ((e.k : Int) == 2) = false := by rw [hk]; rfl
  have q3 : ((e.k : Int) == 3) = false := by rw [hk]; rfl
  have q4 : ((e.k : Int) == 4) = false := by rw [hk]; rfl
  have q5 : ((e.k : Int) == 5) = true := by rw [hk]; rfl
  have s0 := M0.src.n
  have o0 := M0.own.n
  have f0 := M0.own.blk.frozen 9
  have u0 := keep_n h.d6 false false false false false
  have M1 := MC.made (w := w) h.d6 true false false false false
  have s1 := M1.src.a
  have o1 := M1.own.a
  have f1 := M1.own.blk.frozen 11
  have u1 := keep_a h.d6 true false false false false
  have M2 := MC.made (w := w) h.d6 true false true false false
  have s2 := M2.src.t
  have o2 := M2.own.t
  have f2 := M2.own.blk.frozen 10
  have u2 := keep_t h.d6 true false true false false
  have M3 := MC.made (w := w) h.d6 true true true false false
  have le := M3.own.load
  have sR := run_storeE (e := keep e true true true false false) h.d6 M3.res.blk rfl
  have MM := Lib.hid M3
  clear P0 P1 h hk M0 M1 M2 M3
  generalize (e.k : Int) = kz at c3 bE c4 q1 q2 q3 q4 q5
  go_enter Try.func60, Try.ntmps60
  go_wp2_with fail
  exact bodyPost_ret (retE1 (g := w.heap.size + 1) ⟨MM.out.res.blk.row (evA (keep e true true true false false)), MM.out.src.d6⟩ Try.results60 _ rfl) rfl ⟨rfl, below_setRow MM.out.bel (by omega) _⟩
set_option maxRecDepth 100000 in
set_option maxHeartbeats 1000000 in
theorem own_6 (e : Ev) (h : e.ok) (hk : e.k = 6) (w : World) : Calls Try.prog 60 #[.agg (evA e)] w fun x w' => x = .returned (.agg (evA (keep e false true false false false))) ∧ Below w.heap.size w w' := by
  have P0 := EB.new w h.d6
  have P1 := P0.alloc (.cells (evA E0) 26)
  have c0 := P1.o
  have c1 := P1.s
  have c2 := run_loadV_mid h.d6 P1.dl
  have c3 := P1.k
  have bE := run_buildE4 e h.d6
  have aE := run_allocE
  have sE := run_storeE_new (e := headE e) h.d6 ((w.alloc (.cells (evA e) 26)).alloc (.cells (evA E0) 26))
  rw [show ((w.alloc (.cells (evA e) 26)).alloc (.cells (evA E0) 26)).heap.size = w.heap.size + 2 by simp, head_keep] at sE
  rw [head_keep] at bE
  have M0 := MC.made (w := w) h.d6 false false false false false
  have c4 := M0.src.k
  have q1 : ((e.k : Int) == 1) = false := by rw [hk]; rfl
  have q2 : ((e.k : Int) == 2) = false := by rw [hk]; rfl
  have q3 : ((e.k : Int) == 3) = false := by rw [hk]; rfl
  have q4 : ((e.k : Int) == 4) = false := by rw [hk]; rfl
  have q5 : ((e.k : Int) == 5) = false := by rw [hk]; rfl
  have q6 : ((e.k : Int) == 6) = true := by rw [hk]; rfl
  have s0 := M0.src.t
  have o0 := M0.own.t
  have f0 := M0.own.blk.frozen 10
  have u0 := keep_t h.d6 false false false false false
  have M1 := MC.made (w := w) h.d6 false true false false false
  have le := M1.own.load
  have sR := run_storeE (e := keep e false true false false false) h.d6 M1.res.blk rfl
  have MM := Lib.hid M1
  clear P0 P1 h hk M0 M1
  generalize (e.k : Int) = kz at c3 bE c4 q1 q2 q3 q4 q5 q6
  go_enter Try.func60, Try.ntmps60
  go_wp2_with fail
  exact bodyPost_ret (retE1 (g := w.heap.size + 1) ⟨MM.out.res.blk.row (evA (keep e false true false false false)), MM.out.src.d6⟩ Try.results60 _ rfl) rfl ⟨rfl, below_setRow MM.out.bel (by omega) _⟩
set_option maxRecDepth 100000 in
set_option maxHeartbeats 1000000 in
theorem own_0 (e : Ev) (h : e.ok) (hk : ¬ e.k = 1 ∧ ¬ e.k = 2 ∧ ¬ e.k = 3 ∧ ¬ e.k = 4 ∧ ¬ e.k = 5 ∧ ¬ e.k = 6) (w : World) : Calls Try.prog 60 #[.agg (evA e)] w fun x w' => x = .returned (.agg (evA (keep e false false false false false))) ∧ Below w.heap.size w w' := by
  have P0 := EB.new w h.d6
  have P1 := P0.alloc (.cells (evA E0) 26)
  have c0 := P1.o
  have c1 := P1.s
  have c2 := run_loadV_mid h.d6 P1.dl
  have c3 := P1.k
  have bE := run_buildE4 e h.d6
  have aE := run_allocE
  have sE := run_storeE_new (e := headE e) h.d6 ((w.alloc (.cells (evA e) 26)).alloc (.cells (evA E0) 26))
  rw [show ((w.alloc (.cells (evA e) 26)).alloc (.cells (evA E0) 26)).heap.size = w.heap.size + 2 by simp, head_keep] at sE
  rw [head_keep] at bE
  have M0 := MC.made (w := w) h.d6 false false false false false
  have c4 := M0.src.k
  have q : ∀ j : Nat, ¬ e.k = j → ((e.k : Int) == (j : Int)) = false := fun j hj => by simpa using (fun x : (e.k : Int) = (j : Int) => hj (by omega))
  have q1 : ((e.k : Int) == 1) = false := q 1 hk.1
  have q2 : ((e.k : Int) == 2) = false := q 2 hk.2.1
  have q3 : ((e.k : Int) == 3) = false := q 3 hk.2.2.1
  have q4 : ((e.k : Int) == 4) = false := q 4 hk.2.2.2.1
  have q5 : ((e.k : Int) == 5) = false := q 5 hk.2.2.2.2.1
  have q6 : ((e.k : Int) == 6) = false := q 6 hk.2.2.2.2.2
  clear q
  have le := M0.own.load
  have sR := run_storeE (e := keep e false false false false false) h.d6 M0.res.blk rfl
  have MM := Lib.hid M0
  clear P0 P1 h hk M0
  generalize (e.k : Int) = kz at c3 bE c4 q1 q2 q3 q4 q5 q6
  go_enter Try.func60, Try.ntmps60
  go_wp2_with fail
  exact bodyPost_ret (retE1 (g := w.heap.size + 1) ⟨MM.out.res.blk.row (evA (keep e false false false false false)), MM.out.src.d6⟩ Try.results60 _ rfl) rfl ⟨rfl, below_setRow MM.out.bel (by omega) _⟩
theorem own_any (e : Ev) (h : e.ok) (w : World) : Calls Try.prog 60 #[.agg (evA e)] w fun x w' => x = .returned (.agg (evA (ownE e))) ∧ Below w.heap.size w w' := by
  unfold ownE
  by_cases h1 : e.k = 1
  · rw [if_pos (.inl h1)]; exact own_1 e h h1 w
  by_cases h2 : e.k = 2
  · rw [if_pos (.inr h2)]; exact own_2 e h h2 w
  rw [if_neg (by omega)]
  by_cases h3 : e.k = 3
  · rw [if_pos h3]; exact own_3 e h h3 w
  by_cases h4 : e.k = 4
  · rw [if_neg h3, if_pos h4]; exact own_4 e h h4 w
  by_cases h5 : e.k = 5
  · rw [if_neg h3, if_neg h4, if_pos h5]; exact own_5 e h h5 w
  by_cases h6 : e.k = 6
  · rw [if_neg h3, if_neg h4, if_neg h5, if_pos h6]; exact own_6 e h h6 w
  · rw [if_neg h3, if_neg h4, if_neg h5, if_neg h6]; exact own_0 e h ⟨h1, h2, h3, h4, h5, h6⟩ w
end Go.Proofs.Ytjihbjjekhncaaa
